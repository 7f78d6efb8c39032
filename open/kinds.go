package open

import (
	"windlass/api"
	"windlass/blob"
	"windlass/pipe"
)

// read reads from a descriptor, as its description's kind does.
func (w *worker) read(fd, n int) (string, api.Errno) {
	at, open := w.place(fd)
	if !open || w.Opens[at].Flags&api.FlRead == 0 {
		return "", api.ErrFd
	}
	if n < 1 {
		return "", api.ErrInval
	}
	d := &w.Opens[at]
	return w.kinds[d.Kind].read(d, n)
}

// write writes to a descriptor, likewise; how many bytes.
func (w *worker) write(fd int, s string) (int, api.Errno) {
	at, open := w.place(fd)
	if !open || w.Opens[at].Flags&api.FlWrite == 0 {
		return 0, api.ErrFd
	}
	d := &w.Opens[at]
	return w.kinds[d.Kind].write(d, s)
}

// readFile reads a file from where its description is.
func (w *worker) readFile(d *api.Open, n int) (string, api.Errno) {
	text, err := blob.Read(w.Tree, d.At, d.Off, n)
	d.Off += len(text)
	return text, err
}

// writeFile writes all of a text to a file, where its description is, or at the file's end.
func (w *worker) writeFile(d *api.Open, s string) (int, api.Errno) {
	off := d.Off
	if d.Flags&api.FlAppend != 0 {
		off = len(w.Tree.Nodes[d.At].Data)
	}
	made, err := blob.Write(w.Tree, d.At, off, s)
	if err != api.OK {
		return 0, err
	}
	w.Tree, d.Off = made, off+len(s)
	return len(s), api.OK
}

// readPipe takes bytes out of a pipe.
func (w *worker) readPipe(d *api.Open, n int) (string, api.Errno) {
	made, text, err := pipe.Read(w.Pipes[d.At], n)
	w.Pipes[d.At] = made
	return text, err
}

// writePipe puts as many bytes into a pipe as find room.
func (w *worker) writePipe(d *api.Open, s string) (int, api.Errno) {
	made, n, err := pipe.Write(w.Pipes[d.At], s)
	w.Pipes[d.At] = made
	return n, err
}

// writeOut puts a text out.
func (w *worker) writeOut(d *api.Open, s string) (int, api.Errno) {
	if len(w.Outs[d.At])+len(s) > api.MaxOut {
		return 0, api.ErrSpace
	}
	w.Outs[d.At] += s
	return len(s), api.OK
}

// leave is what is done to a file, or to what is put out, as a description of it goes: nothing.
func (w *worker) leave(api.Open) {}

// dropReader takes a reading end from a pipe.
func (w *worker) dropReader(d api.Open) { w.Pipes[d.At] = pipe.Close(w.Pipes[d.At], true) }

// dropWriter takes a writing end from a pipe.
func (w *worker) dropWriter(d api.Open) { w.Pipes[d.At] = pipe.Close(w.Pipes[d.At], false) }
