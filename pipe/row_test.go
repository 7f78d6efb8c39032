package pipe_test

import "windlass/api"

// waiting is the chapter told a second way: what waits in a pipe is a row of bytes, each of which is put and taken alone.
type waiting struct {
	row              []byte
	readers, writers int
	size             int
}

func rowOf(p api.Pipe) *waiting {
	return &waiting{[]byte(p.Data), p.Readers, p.Writers, p.Cap}
}

// pipe is the pipe that this is to be.
func (w *waiting) pipe() api.Pipe {
	return api.Pipe{Data: string(w.row), Readers: w.readers, Writers: w.writers, Cap: w.size}
}

func (w *waiting) read(n int) (string, api.Errno) {
	if n < 1 {
		return "", api.ErrInval
	}
	var taken []byte
	for len(w.row) > 0 && len(taken) < n {
		taken = append(taken, w.row[0])
		w.row = w.row[1:]
	}
	if len(taken) == 0 && w.writers != 0 {
		return "", api.ErrAgain
	}
	return string(taken), api.OK
}

func (w *waiting) write(s string) (int, api.Errno) {
	if w.readers == 0 {
		return 0, api.ErrPipe
	}
	put := 0
	for _, c := range []byte(s) {
		if len(w.row) == w.size {
			break
		}
		w.row = append(w.row, c)
		put++
	}
	if put == 0 && s != "" {
		return 0, api.ErrAgain
	}
	return put, api.OK
}

// count is how many descriptors an end has behind one more, or one less.
func (w *waiting) count(reads, more bool) {
	end := &w.writers
	if reads {
		end = &w.readers
	}
	switch {
	case more && *end != 1000:
		*end++
	case !more && *end != 0:
		*end--
	}
}
