package drop_test

import (
	"maps"
	"math/rand"
	"slices"
	"strconv"
	"strings"
	"testing"

	"windlass/api"
	"windlass/make"
	"windlass/path"
	"windlass/tree"
)

// build is a tree of what the lines say, in their order, inodes from 1 on, and free ones behind them: "d/" is a directory, "l -> to" a link, "n = f" one more name of f, anything else a file with its path as its bytes.
func build(t *testing.T, lines ...string) api.Tree {
	t.Helper()
	s, _ := tree.New(len(lines)+4, 65536)
	for _, line := range lines {
		ino, err := 0, api.OK
		if p, to, is := strings.Cut(line, " -> "); is {
			s, _, err = make.Symlink(s, 0, to, p)
		} else if p, old, is := strings.Cut(line, " = "); is {
			s, err = make.Link(s, 0, old, p)
		} else if p, is := strings.CutSuffix(line, "/"); is {
			s, _, err = make.Mkdir(s, 0, p, 7)
		} else if s, ino, err = make.Create(s, 0, line, 6); err == api.OK {
			s.Nodes[ino].Data = line
		}
		if err != api.OK {
			t.Fatalf("%s: %v", line, err)
		}
	}
	holdFit(t, "a sample", s)
	return s
}

// sample has files of one name and of two, directories with names and without, and links to each, and to nothing.
func sample(t *testing.T) api.Tree {
	return build(t,
		"d/", "d/e/", "d/e/f", "d/g", "d/h = d/e/f", "m/", "m/in", "empty/", "bare/", "x", "y", "z = y",
		"toFile -> d/e/f", "toDir -> d/e", "toEmpty -> empty", "toRoot -> /", "toNothing -> nothing", "toItself -> toItself",
		"m/up -> ..", "m/rel -> ../d/g", "n = m/up",
	)
}

// at is the inode at a path of names alone, be the Modes what they are; of a path that is not there none that any call could tell.
func at(s api.Tree, p string) int {
	ino := 0
	for _, name := range path.Parts(p) {
		if ino = tree.Kid(s, ino, name); ino < 0 {
			return -99
		}
	}
	return ino
}

// mode is the tree with another Mode of what is at a path.
func mode(s api.Tree, p string, mode int) api.Tree {
	s = copied(s)
	s.Nodes[at(s, p)].Mode = mode
	return s
}

// crowded is the tree with so many names in the directory at a path, those that are missing being of the file x in the root.
func crowded(s api.Tree, p string, names int) api.Tree {
	s = copied(s)
	dir, x := at(s, p), at(s, "x")
	kids := s.Nodes[dir].Kids
	for i := len(kids); i < names; i++ {
		kids = append(kids, api.Entry{Name: "k" + strconv.Itoa(10000+i), Ino: x})
		s.Nodes[x].Links++
	}
	slices.SortFunc(kids, func(a, b api.Entry) int { return strings.Compare(a.Name, b.Name) })
	s.Nodes[dir].Kids = kids
	return s
}

// copied is a tree that shares nothing with the one that it is like.
func copied(s api.Tree) api.Tree {
	s.Nodes = slices.Clone(s.Nodes)
	for i := range s.Nodes {
		s.Nodes[i].Kids = slices.Clone(s.Nodes[i].Kids)
	}
	return s
}

func holdFit(t *testing.T, what string, s api.Tree) {
	t.Helper()
	if !tree.Fit(s) {
		t.Fatalf("%s: not fit: %v", what, s)
	}
}

// holdSame wants a tree to be just so.
func holdSame(t *testing.T, what string, got, want api.Tree) {
	t.Helper()
	if !tree.Same(got, want) {
		t.Errorf("%s: the tree is %v, not %v", what, got, want)
	}
}

// flat is a tree told by its paths: which inode each leads to, what is in each inode but its names, and the limits. It knows nothing of Kids, Links and Ups: those follow from the paths.
type flat struct {
	inodes api.Tree
	paths  map[string]int
}

func flatten(s api.Tree) flat {
	f := flat{copied(s), map[string]int{}}
	for _, p := range tree.List(s) {
		f.paths[p] = at(s, p)
	}
	return f
}

// without is the tree without a name.
func (f flat) without(p string) flat {
	f.paths = maps.Clone(f.paths)
	delete(f.paths, p)
	return f
}

// moved is the tree in which all that stood at a path, or below it, stands at another one.
func (f flat) moved(old, p string) flat {
	paths := map[string]int{}
	for was, ino := range f.paths {
		if below, is := strings.CutPrefix(was+"/", old+"/"); is {
			was = strings.TrimSuffix(p+"/"+below, "/")
		}
		paths[was] = ino
	}
	f.paths = paths
	return f
}

// isDir tells whether a directory is at a path.
func (f flat) isDir(p string) bool {
	ino, there := f.paths[p]
	return there && f.inodes.Nodes[ino].Kind == api.InDir
}

// full tells whether something is below a path.
func (f flat) full(p string) bool {
	for q := range f.paths {
		if strings.HasPrefix(q, p+"/") {
			return true
		}
	}
	return false
}

// tree is the tree of the paths that are left.
func (f flat) tree() api.Tree {
	s := copied(f.inodes)
	for i := range s.Nodes {
		s.Nodes[i].Kids, s.Nodes[i].Links, s.Nodes[i].Up = nil, 0, 0
	}
	for _, p := range slices.Sorted(maps.Keys(f.paths)) {
		cut, ino := strings.LastIndexByte(p, '/'), f.paths[p]
		up := f.paths[p[:cut]] // of the root's names 0, which is the root
		s.Nodes[up].Kids = append(s.Nodes[up].Kids, api.Entry{Name: p[cut+1:], Ino: ino})
		s.Nodes[ino].Links++
		if s.Nodes[ino].Kind == api.InDir {
			s.Nodes[ino].Up = up
		}
	}
	for i := range s.Nodes[1:] {
		if s.Nodes[i+1].Links == 0 {
			s.Nodes[i+1] = api.Inode{}
		}
	}
	return s
}

// TestFlat: of paths that nothing was done to the same tree is told.
func TestFlat(t *testing.T) {
	holdSame(t, "the sample", flatten(sample(t)).tree(), sample(t))
	for seed := range int64(200) {
		s := grown(rand.New(rand.NewSource(seed)))
		holdFit(t, "a tree that grew", s)
		holdSame(t, "a tree that grew", flatten(s).tree(), s)
	}
}

// grown is a fit tree that grew by a seed: directories, files and links of few short names, so that many paths of these lead somewhere; some Modes are what they are.
func grown(r *rand.Rand) api.Tree {
	s, _ := tree.New(6+r.Intn(34), 65536)
	for range 10 + r.Intn(60) {
		dirs := []string{""}
		for _, p := range tree.List(s) {
			if s.Nodes[at(s, p)].Kind == api.InDir {
				dirs = append(dirs, p)
			}
		}
		p := dirs[r.Intn(len(dirs))] + "/" + wildName(r)
		switch r.Intn(8) {
		case 0, 1, 2:
			s, _, _ = make.Mkdir(s, 0, p, 7)
		case 3, 4:
			s, _, _ = make.Symlink(s, 0, wildPath(r, 3), p)
		case 5:
			s, _, _ = make.Create(s, 0, p, 6)
		default:
			s, _ = make.Link(s, 0, dirs[r.Intn(len(dirs))]+"/"+wildName(r), p)
		}
	}
	// Behind all that was made, since a Mode might have stood in its way.
	for i, n := range s.Nodes {
		if n.Kind == api.InFile {
			s.Nodes[i].Data = strings.Repeat("x", r.Intn(5))
		}
		if n.Kind != api.InFree && r.Intn(10) == 0 {
			s.Nodes[i].Mode = r.Intn(8)
		}
	}
	return s
}

func wildName(r *rand.Rand) string { return []string{"a", "b", "c", "-", "..."}[r.Intn(5)] }

// wildPath is a path of at most n names, which may be . and .., with or without slashes at both ends; it is never empty.
func wildPath(r *rand.Rand, n int) string {
	p := []string{"", "", "/", "//"}[r.Intn(4)]
	for range 1 + r.Intn(n) {
		name := wildName(r)
		switch r.Intn(14) {
		case 0:
			name = "."
		case 1:
			name = ".."
		}
		p += name + []string{"/", "/", "/", "//"}[r.Intn(4)]
	}
	if r.Intn(4) > 0 {
		p = strings.TrimRight(p, "/")
	}
	return p
}

// wildText is any path, or now and then one that no call can take.
func wildText(r *rand.Rand) string {
	switch r.Intn(30) {
	case 0:
		return ""
	case 1:
		return wildPath(r, 2) + "\x00"
	case 2:
		return strings.Repeat("n", 65)
	case 3:
		return strings.Repeat("./", 511+r.Intn(3)) + "a"
	case 4:
		return []string{"/", "//"}[r.Intn(2)]
	}
	return wildPath(r, 3)
}
