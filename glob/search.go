package glob

import (
	"iter"
	"strings"

	"windlass/api"
	"windlass/walk"
)

// read is the bit of a directory's Mode that is asked for to see its names.
const read = 4

// search is where paths are looked for: in a tree, from a directory on.
type search struct {
	tree api.Tree
	cwd  int
}

// found is a path so far. One that a part may stand behind has all that is to be ahead of that, and the directory that it leads to.
type found struct {
	path string
	dir  int
}

// begin is the paths that a pattern begins with: one, or, where that leads to no directory, none, since no part behind it would lead anywhere.
func (s search) begin(p string) []found {
	path, at := "", "."
	if strings.HasPrefix(p, "/") {
		path, at = "/", "/"
	}
	dir, is := s.dirAt(at)
	if !is {
		return nil
	}
	return []found{{path, dir}}
}

// behind hands out the paths that those so far give way to behind a part.
func (s search) behind(paths []found, x part) iter.Seq[found] {
	return func(yield func(found) bool) {
		names := s.names(x)
		for _, ahead := range paths {
			for _, name := range names(ahead.dir) {
				next, stays := s.reach(ahead.path+name, x)
				if stays && !yield(next) {
					return
				}
			}
		}
	}
}

// names is a function that tells what may stand in a directory in a part's place. Many paths may lead to one directory, and a long part is not soon matched, so that each directory is asked just once.
func (s search) names(x part) func(dir int) []string {
	asked := map[int][]string{}
	return func(dir int) []string {
		names, is := asked[dir]
		if !is {
			names = s.namesIn(dir, x)
			asked[dir] = names
		}
		return names
	}
}

// namesIn is what may stand in a directory in a part's place: of a part without Magic that part, of any other the names there that it wants.
func (s search) namesIn(dir int, x part) []string {
	if !x.magic {
		return []string{x.text}
	}
	var names []string
	if walk.May(s.tree, dir, read) {
		for _, kid := range s.tree.Nodes[dir].Kids {
			if x.wants(kid.Name) {
				names = append(names, kid.Name)
			}
		}
	}
	return names
}

// reach is the path that ends with what stands in a part's place, and whether it stays.
func (s search) reach(path string, x part) (found, bool) {
	switch {
	case x.slash:
		// What is there, followed, is there not followed, too, so that a part without Magic is asked for no more than this.
		dir, is := s.dirAt(path)
		return found{path + "/", dir}, is
	case x.magic:
		return found{path: path}, true
	}
	_, err := walk.Walk(s.tree, s.cwd, path, false)
	return found{path: path}, err == api.OK
}

// dirAt is the directory that a path leads to, if it leads to one.
func (s search) dirAt(path string) (int, bool) {
	ino, err := walk.Walk(s.tree, s.cwd, path, true)
	return ino, err == api.OK && s.tree.Nodes[ino].Kind == api.InDir
}
