package pipe_test

import (
	"math/rand"
	"testing"

	"windlass/api"
	"windlass/pipe"
)

// stream is a pipe, and all that was written into it and read out of it, from its beginning on.
type stream struct {
	p       api.Pipe
	written string
	read    string
}

// hold wants what was read and what waits to be what was written, in order, and the pipe to be fit.
func (s stream) hold(t *testing.T) {
	t.Helper()
	if s.read+s.p.Data != s.written {
		t.Fatalf("%q was read and %q waits, %q was written", s.read, s.p.Data, s.written)
	}
	if len(s.p.Data) > s.p.Cap || !pipe.Fit(s.p) {
		t.Fatalf("not fit: %s", told(s.p))
	}
}

// take reads, and wants of a pipe that has Data at least a byte.
func (s *stream) take(t *testing.T, n int) (string, api.Errno) {
	t.Helper()
	had := len(s.p.Data)
	made, text, err := pipe.Read(s.p, n)
	if n > 0 && had > 0 && (text == "" || err != api.OK) {
		t.Fatalf("Read of %d of %s = %q, %v", n, told(s.p), text, err)
	}
	if err != api.OK && (made != s.p || text != "") {
		t.Fatalf("Read beside %v: %q, %s", err, text, told(made))
	}
	s.p, s.read = made, s.read+text
	s.hold(t)
	return text, err
}

// put writes, and wants a pipe that is not full and has a reader to take at least a byte.
func (s *stream) put(t *testing.T, text string) (int, api.Errno) {
	t.Helper()
	made, n, err := pipe.Write(s.p, text)
	if text != "" && len(s.p.Data) < s.p.Cap && s.p.Readers > 0 && (n < 1 || err != api.OK) {
		t.Fatalf("Write of %q to %s = %d, %v", text, told(s.p), n, err)
	}
	if err != api.OK && (made != s.p || n != 0) {
		t.Fatalf("Write beside %v: %d, %s", err, n, told(made))
	}
	if n < 0 || n > len(text) {
		t.Fatalf("Write of %d bytes = %d", len(text), n)
	}
	s.p, s.written = made, s.written+text[:n]
	s.hold(t)
	return n, err
}

// letters is bytes no two of which are the same, so that none can be lost, and none come twice, unseen.
func letters(from, n int) string {
	row := make([]byte, n)
	for i := range row {
		row[i] = byte((from + i) * 37)
	}
	return string(row)
}

// follow makes all rows of so many reads and writes, of pieces from 0 to most bytes.
func follow(t *testing.T, s stream, steps, most int) int {
	if steps == 0 {
		return 1
	}
	rows := 0
	for n := range most + 1 {
		reading, writing := s, s
		reading.take(t, n)
		rows += follow(t, reading, steps-1, most)
		writing.put(t, letters(len(writing.written), n))
		rows += follow(t, writing, steps-1, most)
	}
	return rows
}

// P8.5, P8.6: all short rows of reads and writes, in all small pieces, in small pipes.
func TestAllShortRows(t *testing.T) {
	for size := 1; size <= 4; size++ {
		p, _ := pipe.New(size)
		if rows := follow(t, stream{p: p}, 5, 4); rows != 100000 {
			t.Errorf("%d rows", rows)
		}
	}
}

// sizes is some sizes of pipes by a seed.
func sizes(r *rand.Rand) int {
	return []int{1, 2, 3, 1 + r.Intn(20), 1 + r.Intn(300), 64, 4096, maxCap}[r.Intn(8)]
}

// piece is how long a piece is, by a seed: most often near the size of the pipe, or short.
func piece(r *rand.Rand, size int) int {
	return []int{r.Intn(3), r.Intn(9), r.Intn(size + 1), max(size-2+r.Intn(5), 0), size, 2 * size}[r.Intn(6)]
}

// P8.5, P8.6: a text goes through a pipe in whatever pieces, and comes out as it went in; then the pipe tells its end.
func TestThrough(t *testing.T) {
	for seed := range int64(400) {
		r := rand.New(rand.NewSource(seed))
		size := sizes(r)
		text := wildText(r, r.Intn(2*min(size, 3000)+100))
		p, _ := pipe.New(size)
		s, left := stream{p: p}, text
		for left != "" || s.p.Data != "" {
			if r.Intn(2) == 0 {
				n, _ := s.put(t, left[:min(piece(r, size), len(left))])
				left = left[n:]
			} else {
				s.take(t, piece(r, size))
			}
		}
		if s.read != text {
			t.Fatalf("seed %d: %q was read, not %q", seed, s.read, text)
		}
		if got, err := s.take(t, 1); got != "" || err != api.ErrAgain {
			t.Fatalf("seed %d: Read of an empty pipe = %q, %v", seed, got, err)
		}
		s.p = pipe.Close(s.p, false)
		if got, err := s.take(t, 1); got != "" || err != api.OK {
			t.Fatalf("seed %d: Read at the end = %q, %v", seed, got, err)
		}
	}
}

// P8.5, P8.6: who writes and who reads in turn get all through a pipe of any size in as few turns as its room asks for.
func TestTurns(t *testing.T) {
	text := bytesOf(200)
	for size := 1; size <= 201; size++ {
		p, _ := pipe.New(size)
		s, turns := stream{p: p}, 0
		for s.read != text {
			s.put(t, text[len(s.written):])
			s.take(t, 1000)
			turns++
			if turns > 200 {
				t.Fatalf("size %d: no end", size)
			}
		}
		if want := (200 + size - 1) / size; turns != want {
			t.Errorf("size %d: %d turns, not %d", size, turns, want)
		}
	}
}

// step makes a call by a seed on a pipe and on a row of bytes, wants both to tell the same, and tells which call, and what was told.
func step(t *testing.T, r *rand.Rand, s *stream, w *waiting) (string, api.Errno) {
	t.Helper()
	size := s.p.Cap
	switch r.Intn(8) {
	case 0, 1, 2:
		n := piece(r, size) - r.Intn(2)
		want, err := w.read(n)
		if got, is := s.take(t, n); got != want || is != err {
			t.Fatalf("Read of %d = %q, %v, not %q, %v", n, got, is, want, err)
		}
		return "Read", err
	case 3, 4, 5:
		text := wildText(r, piece(r, size))
		want, err := w.write(text)
		if got, is := s.put(t, text); got != want || is != err {
			t.Fatalf("Write of %q = %d, %v, not %d, %v", text, got, is, want, err)
		}
		return "Write", err
	case 6:
		reads := r.Intn(2) == 0
		w.count(reads, false)
		s.p = pipe.Close(s.p, reads)
	case 7:
		reads := r.Intn(2) == 0
		w.count(reads, true)
		s.p = pipe.Dup(s.p, reads)
	}
	return "count", api.OK
}

// P8.2 to P8.6: calls by seeds, Close and Dup among them, one behind the other, against a row of bytes.
func TestBySeeds(t *testing.T) {
	met := map[string]map[api.Errno]int{"Read": {}, "Write": {}, "count": {}}
	for seed := range int64(600) {
		r := rand.New(rand.NewSource(seed))
		size := min(sizes(r), 300)
		data := wildText(r, r.Intn(size+1))
		count := func() int { return []int{0, 1, 1, 2, 999, 1000}[r.Intn(6)] }
		s := stream{p: api.Pipe{Data: data, Readers: count(), Writers: count(), Cap: size}, written: data}
		s.hold(t)
		w := rowOf(s.p)
		for range 100 {
			what, err := step(t, r, &s, w)
			met[what][err]++
			holdSame(t, what, s.p, w.pipe())
			if t.Failed() {
				t.Fatalf("seed %d", seed)
			}
		}
	}
	for what, errs := range map[string][]api.Errno{"Read": {api.OK, api.ErrInval, api.ErrAgain}, "Write": {api.OK, api.ErrPipe, api.ErrAgain}, "count": {api.OK}} {
		for _, err := range errs {
			if met[what][err] < 500 {
				t.Errorf("%s told %v just %d times", what, err, met[what][err])
			}
		}
	}
}

// P8.6: each pipe that is not full takes at least a byte, and each that has Data gives at least one, at all lengths of some Caps.
func TestAtLeastOne(t *testing.T) {
	for _, size := range []int{1, 2, 3, 64, 255, 256, 257, 1000} {
		data := bytesOf(size)
		for length := range size + 1 {
			for _, readers := range []int{1, 2, 1000} {
				s := stream{p: ends(of(data[:length], size), readers, 1), written: data[:length]}
				full, empty := s, s
				if n, err := full.put(t, "\x00"); (n == 1) != (length < size) || (err == api.OK) != (length < size) {
					t.Fatalf("Write of a byte to %s = %d, %v", told(s.p), n, err)
				}
				if text, err := empty.take(t, 1); (len(text) == 1) != (length > 0) || (err == api.OK) != (length > 0) {
					t.Fatalf("Read of a byte of %s = %q, %v", told(s.p), text, err)
				}
			}
		}
	}
}

// P8.4, P8.5: Close and Dup, wherever they come, take no bytes out of a pipe and put none in.
func TestCountsLeaveData(t *testing.T) {
	for seed := range int64(100) {
		r := rand.New(rand.NewSource(seed))
		p, _ := pipe.New(1 + r.Intn(100))
		p, n, _ := pipe.Write(p, wildText(r, 50))
		want := p
		for range 3000 {
			reads, more := r.Intn(2) == 0, r.Intn(5) > 1
			if more {
				p = pipe.Dup(p, reads)
			} else {
				p = pipe.Close(p, reads)
			}
			holdFit(t, "a pipe whose descriptors are counted", p)
		}
		holdSame(t, "but for its ends", ends(p, 1, 1), want)
		_, text, err := pipe.Read(p, 1000)
		if text != want.Data || len(text) != n || err != api.OK {
			t.Fatalf("seed %d: Read = %q, %v", seed, text, err)
		}
	}
}
