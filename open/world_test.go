package open_test

import (
	"slices"
	"strings"

	"windlass/api"
	"windlass/make"
	"windlass/tree"
	"windlass/walk"
)

// world is what the chapter speaks of, told another way: descriptions and pipes know nothing of who has them; Refs, and ends, follow from the descriptors of all processes. Each call tells a world of its own.
type world struct {
	tree  api.Tree
	pipes []api.Pipe
	opens []api.Open
	outs  [2]string
	procs []api.Fds
}

func (w world) own() world {
	k := copied(api.Kern{Tree: w.tree, Pipes: w.pipes, Opens: w.opens})
	return world{k.Tree, k.Pipes, k.Opens, w.outs, slices.Clone(w.procs)}
}

// refs is how many descriptors have a description.
func (w world) refs(place int) int {
	n := 0
	for _, f := range w.procs {
		for _, at := range f {
			if at == place+1 {
				n++
			}
		}
	}
	return n
}

// ends is how many descriptions of a kind a pipe has, of those that any descriptor has.
func (w world) ends(pipe, kind int) int {
	n := 0
	for place, d := range w.opens {
		if d.Kind == kind && d.At == pipe && w.refs(place) > 0 {
			n++
		}
	}
	return n
}

// kern is the kernel that follows.
func (w world) kern() api.Kern {
	k := copied(api.Kern{Tree: w.tree, Pipes: w.pipes, Opens: w.opens, Outs: w.outs})
	for i := range k.Opens {
		k.Opens[i].Refs = w.refs(i)
		if k.Opens[i].Refs == 0 {
			k.Opens[i] = api.Open{}
		}
	}
	for i := range k.Pipes {
		k.Pipes[i].Readers, k.Pipes[i].Writers = w.ends(i, api.OpRead), w.ends(i, api.OpWrite)
	}
	return k
}

// places is all places that a description can have, the first one first.
func (w world) places() []int {
	var all []int
	for i := range 64 {
		if i >= len(w.opens) || w.refs(i) == 0 {
			all = append(all, i)
		}
	}
	return all
}

// lay lays a description at a place.
func (w *world) lay(place int, d api.Open) {
	for len(w.opens) <= place {
		w.opens = append(w.opens, api.Open{})
	}
	w.opens[place] = d
}

// has is the place of a descriptor's description, or one below 0.
func (w world) has(proc, fd int) int {
	if fd < 0 || fd > 9 {
		return -1
	}
	return w.procs[proc][fd] - 1
}

func (w world) open(proc, fd, cwd int, p string, how int) (world, api.Errno) {
	if fd < 0 || fd > 9 {
		return w, api.ErrFd
	}
	if how < 0 || how > 4 {
		return w, api.ErrInval
	}
	made := w.own()
	ino, err := walk.Walk(made.tree, cwd, p, true)
	fresh := err == api.ErrNone && how > 0
	if fresh {
		made.tree, ino, err = make.Create(made.tree, cwd, p, 6)
	}
	if err != api.OK {
		return w, err
	}
	n := &made.tree.Nodes[ino]
	switch {
	case how == 4 && !fresh && n.Kind == api.InFile:
		return w, api.ErrThere
	case how > 0 && n.Kind == api.InDir:
		return w, api.ErrIsDir
	case n.Mode&asked[how] != asked[how]:
		return w, api.ErrAccess
	case n.Kind == api.InDir:
		return w, api.ErrIsDir
	}
	if how == 1 {
		n.Data = ""
	}
	places := made.places()
	if len(places) == 0 {
		return w, api.ErrFds
	}
	made.lay(places[0], api.Open{Kind: api.OpFile, At: ino, Flags: flagged[how]})
	made.procs[proc][fd] = places[0] + 1
	return made, api.OK
}

func (w world) close(proc, fd int) (world, api.Errno) {
	if w.has(proc, fd) < 0 {
		return w, api.ErrFd
	}
	made := w.own()
	made.procs[proc][fd] = 0
	return made, api.OK
}

func (w world) dup(proc, from, to int) (world, api.Errno) {
	if w.has(proc, from) < 0 || to < 0 || to > 9 {
		return w, api.ErrFd
	}
	made := w.own()
	made.procs[proc][to] = made.procs[proc][from]
	return made, api.OK
}

func (w world) pipe(proc, reads, writes, size int) (world, api.Errno) {
	switch {
	case reads < 0 || reads > 9 || writes < 0 || writes > 9:
		return w, api.ErrFd
	case reads == writes, size < 1, size > 65536:
		return w, api.ErrInval
	}
	made := w.own()
	at := 1
	for at < len(w.pipes) && w.ends(at, api.OpRead)+w.ends(at, api.OpWrite) > 0 {
		at++
	}
	places := made.places()
	if at == 32 || len(places) < 2 {
		return w, api.ErrFds
	}
	if at == len(w.pipes) {
		made.pipes = append(made.pipes, api.Pipe{})
	}
	made.pipes[at] = api.Pipe{Cap: size}
	made.lay(places[0], api.Open{Kind: api.OpRead, At: at, Flags: 1})
	made.lay(places[1], api.Open{Kind: api.OpWrite, At: at, Flags: 2})
	made.procs[proc][reads], made.procs[proc][writes] = places[0]+1, places[1]+1
	return made, api.OK
}

func (w world) read(proc, fd, n int) (world, string, api.Errno) {
	place := w.has(proc, fd)
	if place < 0 || w.opens[place].Flags%2 == 0 {
		return w, "", api.ErrFd
	}
	if n < 1 {
		return w, "", api.ErrInval
	}
	made := w.own()
	d := &made.opens[place]
	if d.Kind == api.OpFile {
		data := w.tree.Nodes[d.At].Data
		text := data[min(d.Off, len(data)):]
		text = text[:min(n, len(text))]
		d.Off += len(text)
		return made, text, api.OK
	}
	p := &made.pipes[d.At]
	if p.Data == "" && w.ends(d.At, api.OpWrite) > 0 {
		return w, "", api.ErrAgain
	}
	text := p.Data[:min(n, len(p.Data))]
	p.Data = strings.TrimPrefix(p.Data, text)
	return made, text, api.OK
}

func (w world) write(proc, fd int, s string) (world, int, api.Errno) {
	place := w.has(proc, fd)
	if place < 0 || w.opens[place].Flags&2 == 0 {
		return w, 0, api.ErrFd
	}
	made := w.own()
	d := &made.opens[place]
	switch d.Kind {
	case api.OpFile:
		return w.writeFile(made, d, s)
	case api.OpOut:
		made.outs[d.At] += s
		if len(made.outs[d.At]) > 65536 {
			return w, 0, api.ErrSpace
		}
		return made, len(s), api.OK
	}
	p := &made.pipes[d.At]
	n := min(len(s), p.Cap-len(p.Data))
	switch {
	case w.ends(d.At, api.OpRead) == 0:
		return w, 0, api.ErrPipe
	case n == 0 && s != "":
		return w, 0, api.ErrAgain
	}
	p.Data += s[:n]
	return made, n, api.OK
}

// writeFile writes in a world that is made of this one.
func (w world) writeFile(made world, d *api.Open, s string) (world, int, api.Errno) {
	file := &made.tree.Nodes[d.At]
	if d.Flags&4 != 0 {
		d.Off = len(file.Data)
	}
	if s == "" {
		return made, 0, api.OK
	}
	if d.Off+len(s) > 65536 {
		return w, 0, api.ErrBig
	}
	ahead := file.Data[:min(d.Off, len(file.Data))]
	rest := file.Data[min(d.Off+len(s), len(file.Data)):]
	file.Data = ahead + strings.Repeat("\x00", d.Off-len(ahead)) + s + rest
	if _, used := tree.Used(made.tree); used > made.tree.MaxBytes {
		return w, 0, api.ErrSpace
	}
	d.Off += len(s)
	return made, len(s), api.OK
}

// fork is the world with one process more, of the same descriptors as another one.
func (w world) fork(proc int) world {
	w = w.own()
	w.procs = append(w.procs, w.procs[proc])
	return w
}

// exit is the world without a process.
func (w world) exit(proc int) world {
	w = w.own()
	w.procs = slices.Delete(w.procs, proc, proc+1)
	return w
}
