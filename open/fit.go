package open

import (
	"windlass/api"
	"windlass/pipe"
	"windlass/tree"
)

const (
	maxRefs = 1000         // descriptors of a description
	maxOff  = api.MaxBytes // no file has more bytes
)

// kernFits tells whether the kernel can be.
func (w *worker) kernFits() bool {
	return tree.Fit(w.Tree) && w.withinLimits() && w.opensFit() && w.endsFit()
}

// withinLimits tells whether there are as many pipes and descriptions as there may be, each pipe can be, and no more was put out than may be.
func (w *worker) withinLimits() bool {
	for _, p := range w.Pipes {
		if !pipe.Fit(p) {
			return false
		}
	}
	for _, out := range w.Outs {
		if len(out) > api.MaxOut {
			return false
		}
	}
	return len(w.Pipes) <= api.MaxPipes && len(w.Opens) <= api.MaxOpens
}

// opensFit tells whether each description can be.
func (w *worker) opensFit() bool {
	for _, d := range w.Opens {
		if !w.isOfKind(d) || d.Kind != api.OpNone && !counts(d) {
			return false
		}
	}
	return true
}

// counts tells whether a description's numbers are within their bounds.
func counts(d api.Open) bool {
	return 1 <= d.Refs && d.Refs <= maxRefs && 0 <= d.Off && d.Off <= maxOff
}

// isOfKind tells whether a description is of a kind that there is, and has what one of that kind has, but for its numbers' bounds.
func (w *worker) isOfKind(d api.Open) bool {
	return 0 <= d.Kind && d.Kind < api.NumOpens && w.kinds[d.Kind].fits(d)
}

// isZero tells whether a description that is none has nothing.
func (w *worker) isZero(d api.Open) bool { return d == api.Open{} }

// fileFits tells whether a description is of a file, with Flags such as can be.
func (w *worker) fileFits(d api.Open) bool {
	if d.At < 0 || d.At >= len(w.Tree.Nodes) || w.Tree.Nodes[d.At].Kind != api.InFile {
		return false
	}
	switch d.Flags {
	case api.FlRead, api.FlWrite, api.FlRead | api.FlWrite, api.FlWrite | api.FlAppend, api.FlRead | api.FlWrite | api.FlAppend:
		return true
	}
	return false
}

// readerFits tells whether a description is of a pipe that it reads.
func (w *worker) readerFits(d api.Open) bool { return w.isEnd(d) && d.Flags == api.FlRead }

// writerFits tells whether a description is of a pipe that it writes.
func (w *worker) writerFits(d api.Open) bool { return w.isEnd(d) && d.Flags == api.FlWrite }

// isEnd tells whether a description is of a pipe.
func (w *worker) isEnd(d api.Open) bool { return 0 <= d.At && d.At < len(w.Pipes) && d.Off == 0 }

// outFits tells whether a description is of what is put out.
func (w *worker) outFits(d api.Open) bool {
	return 0 <= d.At && d.At < len(w.Outs) && d.Off == 0 && d.Flags == api.FlWrite
}

// endsFit tells whether each pipe has as many ends as there are descriptions of them.
func (w *worker) endsFit() bool {
	for i, p := range w.Pipes {
		readers, writers := w.ends(i)
		if p.Readers != readers || p.Writers > writers {
			return false
		}
		// What is read first has an end, be there descriptions that could write it or not.
		if p.Writers < writers && i != 0 {
			return false
		}
	}
	return true
}

// ends is how many descriptions read a pipe, and how many write it.
func (w *worker) ends(i int) (int, int) {
	readers, writers := 0, 0
	for _, d := range w.Opens {
		switch {
		case d.At != i:
		case d.Kind == api.OpRead:
			readers++
		case d.Kind == api.OpWrite:
			writers++
		}
	}
	return readers, writers
}

// fdsFit tells whether each descriptor is closed, or has a description, and none of these has more of them than its Refs say.
func (w *worker) fdsFit() bool {
	var led [api.MaxOpens]int
	for _, at := range w.fds {
		if at == 0 {
			continue
		}
		if at < 0 || at > len(w.Opens) || w.Opens[at-1].Kind == api.OpNone {
			return false
		}
		led[at-1]++
		if led[at-1] > w.Opens[at-1].Refs {
			return false
		}
	}
	return true
}
