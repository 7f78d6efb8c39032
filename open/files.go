package open

import (
	"windlass/api"
	"windlass/blob"
	"windlass/make"
	"windlass/walk"
)

// The bits of a file's Mode that are asked for to read and to write it; a new file has both.
const (
	mayRead  = 4
	mayWrite = 2
	mayBoth  = mayRead | mayWrite
)

// way is a way of opening a file: which bits of its Mode are asked for, the Flags of its description, whether what stands in it goes.
type way struct {
	may   int
	flags int
	empty bool
}

// ways is the ways of opening a file, by their numbers.
var ways = [api.NumHows]way{
	api.HowRead:   {mayRead, api.FlRead, false},
	api.HowWrite:  {mayWrite, api.FlWrite, true},
	api.HowAppend: {mayWrite, api.FlWrite | api.FlAppend, false},
	api.HowBoth:   {mayBoth, api.FlRead | api.FlWrite, false},
	api.HowFresh:  {mayWrite, api.FlWrite, true},
}

// open opens a file on a descriptor.
func (w *worker) open(fd, cwd int, p string, how int) api.Errno {
	if !isFd(fd) {
		return api.ErrFd
	}
	if how < 0 || how >= api.NumHows {
		return api.ErrInval
	}
	ino, err := w.find(cwd, p, how)
	if err != api.OK {
		return err
	}
	at, err := w.describe(api.Open{Kind: api.OpFile, At: ino, Flags: ways[how].flags})
	if err != api.OK {
		return err
	}
	w.lead(fd, at)
	return api.OK
}

// find is the file at a path, such as it is to be opened: if there is none, and it is not just to be read, a new one.
func (w *worker) find(cwd int, p string, how int) (int, api.Errno) {
	ino, err := walk.Walk(w.Tree, cwd, p, true)
	switch {
	case err == api.ErrNone && how != api.HowRead:
		w.Tree, ino, err = make.Create(w.Tree, cwd, p, mayBoth)
	case err == api.OK:
		err = w.refused(ino, how)
	}
	if err == api.OK && ways[how].empty {
		w.Tree, err = blob.Cut(w.Tree, ino, 0)
	}
	return ino, err
}

// refused is the error of what is there, and is to be opened.
func (w *worker) refused(ino, how int) api.Errno {
	dir := w.Tree.Nodes[ino].Kind == api.InDir
	switch {
	case how == api.HowFresh && !dir:
		return api.ErrThere
	case how != api.HowRead && dir:
		return api.ErrIsDir
	case !walk.May(w.Tree, ino, ways[how].may):
		return api.ErrAccess
	case dir:
		return api.ErrIsDir
	}
	return api.OK
}
