package walk

import (
	"iter"
	"slices"
	"strings"

	"windlass/api"
	"windlass/path"
	"windlass/tree"
)

// root is the root's inode.
const root = 0

// way is a way through a tree: where one is, the names that are left, how many links were followed so far.
type way struct {
	tree  api.Tree
	at    int
	left  []string // a stack: the name that is next is the last one
	links int
}

// enter lays a path's names on those that are left; they are gone from where one is, or from the root, if the path begins there.
func (w *way) enter(p string) {
	if strings.HasPrefix(p, "/") {
		w.at = root
	}
	for _, name := range slices.Backward(path.Parts(p)) {
		w.left = append(w.left, name)
	}
}

// leaveOut takes away the last of the names that are left, which lies beneath all others, if there is one.
func (w *way) leaveOut() (string, bool) {
	if len(w.left) == 0 {
		return "", false
	}
	name := w.left[0]
	w.left = w.left[1:]
	return name, true
}

// names hands out the names that are left, and those that are laid on them on the way.
func (w *way) names() iter.Seq[string] {
	return func(yield func(string) bool) {
		for len(w.left) > 0 {
			top := len(w.left) - 1
			name := w.left[top]
			w.left = w.left[:top]
			if !yield(name) {
				return
			}
		}
	}
}

// end goes all names that are left and tells where that leads, or where the first error is met; follow: a link at the end is followed.
func (w *way) end(follow bool) (int, api.Errno) {
	var err api.Errno
onward:
	for name := range w.names() {
		var next int
		next, err = w.step(name)
		switch {
		case err != api.OK:
			break onward
		case kind(w.tree, next) != api.InLink || len(w.left) == 0 && !follow:
			w.at = next
		case w.links == api.MaxLinks:
			err = api.ErrLoop
			break onward
		default:
			w.links++
			w.enter(w.tree.Nodes[next].Data)
		}
	}
	return w.at, err
}

// step is what a name leads to from where one is.
func (w *way) step(name string) (int, api.Errno) {
	if kind(w.tree, w.at) != api.InDir {
		return 0, api.ErrNotDir
	}
	if !May(w.tree, w.at, search) {
		return 0, api.ErrAccess
	}
	next := w.at
	switch name {
	case ".":
	case "..":
		next = w.tree.Nodes[w.at].Up
	default:
		next = tree.Kid(w.tree, w.at, name)
	}
	// Asked so, and not by a number below 0, since an unfit tree's names may lead to what is not there.
	if kind(w.tree, next) == api.InFree {
		return 0, api.ErrNone
	}
	return next, api.OK
}
