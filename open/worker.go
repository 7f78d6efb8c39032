package open

import (
	"windlass/api"
	"windlass/pipe"
)

// worker does a call's work on a kernel and descriptors that are its own.
type worker struct {
	api.Kern
	fds   api.Fds
	kinds [api.NumOpens]kind
}

// kind is what descriptions of a kind have: whether one can be so, what is done with it. A kind whose Flags never let it be read, or written, has nothing there.
type kind struct {
	fits  func(d api.Open) bool
	read  func(d *api.Open, n int) (string, api.Errno)
	write func(d *api.Open, s string) (int, api.Errno)
	end   func(d api.Open) // what is done as its last descriptor goes
}

// workerOf is a worker on a kernel and descriptors.
func workerOf(k api.Kern, f api.Fds) *worker {
	w := &worker{Kern: k, fds: f}
	w.kinds = [api.NumOpens]kind{
		api.OpNone:  {fits: w.isZero},
		api.OpFile:  {fits: w.fileFits, read: w.readFile, write: w.writeFile, end: w.leave},
		api.OpRead:  {fits: w.readerFits, read: w.readPipe, end: w.dropReader},
		api.OpWrite: {fits: w.writerFits, write: w.writePipe, end: w.dropWriter},
		api.OpOut:   {fits: w.outFits, write: w.writeOut, end: w.leave},
	}
	return w
}

// isFd tells whether a number can be a descriptor's.
func isFd(fd int) bool { return 0 <= fd && fd < api.MaxFds }

// place is the place of a descriptor's description, if it is open.
func (w *worker) place(fd int) (int, bool) {
	if !isFd(fd) {
		return 0, false
	}
	at := w.fds[fd]
	// Asked so, and not by 0 alone, since an unfit kernel's descriptors, and its descriptions, may lead to what is not there.
	if at < 1 || at > len(w.Opens) || w.Opens[at-1].Kind == api.OpNone || !w.isOfKind(w.Opens[at-1]) {
		return 0, false
	}
	return at - 1, true
}

// lead makes a descriptor one of a description; it is closed ahead, if it is open.
func (w *worker) lead(fd, at int) {
	w.close(fd)
	w.Opens[at].Refs++
	w.fds[fd] = at + 1
}

// close closes a descriptor.
func (w *worker) close(fd int) api.Errno {
	at, open := w.place(fd)
	if !open {
		return api.ErrFd
	}
	w.fds[fd] = 0
	d := &w.Opens[at]
	d.Refs--
	if d.Refs < 1 {
		w.kinds[d.Kind].end(*d)
		*d = api.Open{}
	}
	return api.OK
}

// dup makes a descriptor one of another one's description.
func (w *worker) dup(from, to int) api.Errno {
	at, open := w.place(from)
	if !open || !isFd(to) {
		return api.ErrFd
	}
	if from != to {
		w.lead(to, at)
	}
	return api.OK
}

// pipe makes a pipe, and descriptors of its ends.
func (w *worker) pipe(reads, writes, size int) api.Errno {
	if !isFd(reads) || !isFd(writes) {
		return api.ErrFd
	}
	if reads == writes {
		return api.ErrInval
	}
	at, err := w.newPipe(size)
	if err != api.OK {
		return err
	}
	// Both are there ahead of what is closed: what falls free by that is too late for them.
	reader, err := w.describe(api.Open{Kind: api.OpRead, At: at, Flags: api.FlRead})
	if err != api.OK {
		return err
	}
	writer, err := w.describe(api.Open{Kind: api.OpWrite, At: at, Flags: api.FlWrite})
	if err != api.OK {
		return err
	}
	w.lead(reads, reader)
	w.lead(writes, writer)
	return api.OK
}

// newPipe is the place of a new pipe.
func (w *worker) newPipe(size int) (int, api.Errno) {
	made, err := pipe.New(size)
	if err != api.OK {
		return 0, err
	}
	var at int
	w.Pipes, at, err = add(w.Pipes, made, api.MaxPipes, func(i int) bool {
		// The pipe 0 is what is read first, be it at its end and left by all.
		return i > 0 && w.Pipes[i].Readers == 0 && w.Pipes[i].Writers == 0
	})
	return at, err
}

// describe is the place of a new description, which no descriptor has yet.
func (w *worker) describe(d api.Open) (int, api.Errno) {
	var at int
	var err api.Errno
	w.Opens, at, err = add(w.Opens, d, api.MaxOpens, func(i int) bool { return w.Opens[i].Kind == api.OpNone })
	return at, err
}

// add lays an item at the first place of a list that is free, or behind all, if there are less than may be; it tells that place, too.
func add[T any](list []T, item T, most int, free func(i int) bool) ([]T, int, api.Errno) {
	for i := range list {
		if free(i) {
			list[i] = item
			return list, i, api.OK
		}
	}
	if len(list) >= most {
		return list, 0, api.ErrFds
	}
	return append(list, item), len(list), api.OK
}
