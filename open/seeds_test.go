package open_test

import (
	"math/rand"
	"slices"
	"strconv"
	"strings"
	"testing"

	"windlass/api"
	"windlass/open"
)

// sampleWorld is the sample as a world.
func sampleWorld() world {
	k, f := sample()
	return world{k.Tree, k.Pipes, k.Opens, k.Outs, append([]api.Fds{f}, others()...)}
}

// TestWorld: of the sample as a world, and of worlds that grew by seeds, fit kernels follow.
func TestWorld(t *testing.T) {
	k, _ := sample()
	holdSame(t, "the sample as a world", sampleWorld().kern(), k)
	for seed := range int64(100) {
		w := grown(rand.New(rand.NewSource(seed)))
		for _, f := range w.procs {
			holdFit(t, "a world that grew", w.kern(), f)
		}
	}
}

// grown is a world by a seed: little room in its tree and Outs, or much; few processes, or so many that few descriptions or pipes are free.
func grown(r *rand.Rand) world {
	w := sampleWorld()
	if r.Intn(3) == 0 {
		w.outs[r.Intn(2)] = strings.Repeat("o", 65536-r.Intn(12))
	}
	if r.Intn(3) == 0 {
		w.tree.MaxBytes = 24 + r.Intn(40)
	}
	if r.Intn(4) == 0 {
		w.tree.Nodes[fileIno].Data = strings.Repeat("f", 65510)
		w.tree.MaxBytes = 65536
	}
	if r.Intn(3) == 0 {
		w.tree.Nodes = w.tree.Nodes[:firstFreeIno+r.Intn(2)]
	}
	for i := range w.tree.Nodes {
		if w.tree.Nodes[i].Kind != api.InFree && r.Intn(8) == 0 {
			w.tree.Nodes[i].Mode = r.Intn(8)
		}
	}
	if r.Intn(3) == 0 {
		for range 9 {
			w = w.fork(0)
			for fd := range 10 {
				w, _ = w.open(len(w.procs)-1, fd, dirIno, "g", r.Intn(4))
			}
		}
	} else if r.Intn(2) == 0 {
		for range 14 + r.Intn(2) {
			w = w.fork(0)
			w, _ = w.pipe(len(w.procs)-1, r.Intn(5), 5+r.Intn(5), 1+r.Intn(9))
		}
		for range 14 {
			w, _ = w.pipe(0, r.Intn(5), 5+r.Intn(5), 1+r.Intn(9))
			w = w.fork(0)
		}
	}
	return w
}

// step is a call by a seed: what is done to a world, and to the kernel that follows from it.
type step struct {
	w    world
	r    *rand.Rand
	proc int
	what string
	err  api.Errno
}

// wildFd is most often a descriptor.
func wildFd(r *rand.Rand) int {
	if r.Intn(25) == 0 {
		return []int{-1, 10, extremes()[r.Intn(len(extremes()))]}[r.Intn(3)]
	}
	return r.Intn(10)
}

func wildPath(r *rand.Rand) string {
	names := []string{"f", "f", "n", "d/g", "d/too", "two", "d/m", "d", "ld/g", "lf", "dead", "/d/../f", ".", "", "n/x", "f/x", "d/", "m/", "o\x00", "d/" + strings.Repeat("x", 65)}
	return names[r.Intn(len(names))]
}

func wildText(r *rand.Rand) string {
	row := make([]byte, []int{0, 1, 1 + r.Intn(4), 1 + r.Intn(4), r.Intn(30)}[r.Intn(5)])
	for i := range row {
		row[i] = []byte{0, 255, 128, '\n', 'a', byte(r.Intn(256))}[r.Intn(6)]
	}
	if r.Intn(25) == 0 {
		return strings.Repeat("long", 1<<14) + string(row)
	}
	return string(row)
}

// fds makes a call that tells descriptors on the world and on its kernel, and wants both to tell the same.
func (s *step) fds(t *testing.T, what string, want world, err api.Errno, c call) {
	t.Helper()
	k := s.w.kern()
	was := copied(k)
	made, f, is := c(k, s.w.procs[s.proc])
	if is != err || f != want.procs[s.proc] {
		t.Fatalf("%s on %s, %v = %v, %v, not %v, %v", what, told(was), s.w.procs, f, is, want.procs[s.proc], err)
	}
	s.settle(t, what, want, err, k, was, made)
}

// settle wants a kernel to be what follows from the world behind a call, and to be fit with the descriptors of each process, and what was given to be as it was.
func (s *step) settle(t *testing.T, what string, want world, err api.Errno, k, was, made api.Kern) {
	t.Helper()
	holdSame(t, what, made, want.kern())
	holdSame(t, "what "+what+" was given", k, was)
	for _, f := range want.procs {
		holdFit(t, what, made, f)
	}
	s.what, s.err, s.w = what, err, want
}

// make makes a call by the seed.
func (s *step) make(t *testing.T) {
	t.Helper()
	r, fd := s.r, wildFd(s.r)
	s.proc = r.Intn(len(s.w.procs))
	if r.Intn(2) == 0 {
		s.proc = 0
	}
	f := s.w.procs[s.proc]
	k := s.w.kern()
	was := copied(k)
	switch r.Intn(16) {
	case 0, 1, 2:
		cwd, p, how := []int{rootIno, rootIno, r.Intn(pastIno+2) - 1}[r.Intn(3)], wildPath(r), r.Intn(5)
		if r.Intn(25) == 0 {
			how = []int{-1, 5}[r.Intn(2)]
		}
		want, err := s.w.open(s.proc, fd, cwd, p, how)
		s.fds(t, "Open", want, err, opening(fd, cwd, p, how))
	case 3:
		want, err := s.w.close(s.proc, fd)
		s.fds(t, "Close", want, err, closing(fd))
	case 4, 5:
		to := wildFd(r)
		want, err := s.w.dup(s.proc, fd, to)
		s.fds(t, "Dup", want, err, duping(fd, to))
	case 6, 7:
		to, size := wildFd(r), []int{1, 2, 5, 9, 64, 65536, 65537, 0}[r.Intn(8)]
		want, err := s.w.pipe(s.proc, fd, to, size)
		s.fds(t, "Pipe", want, err, piping(fd, to, size))
	case 8:
		if len(s.w.procs) < 60 {
			s.settle(t, "Fork", s.w.fork(s.proc), api.OK, k, was, open.Fork(k, f))
		}
	case 9:
		if len(s.w.procs) > 1 {
			s.settle(t, "Exit", s.w.exit(s.proc), api.OK, k, was, open.Exit(k, f))
		}
	case 10, 11, 12:
		n := []int{r.Intn(4), r.Intn(10) - 1, 65536, extremes()[r.Intn(len(extremes()))]}[r.Intn(4)]
		want, text, err := s.w.read(s.proc, fd, n)
		made, got, is := open.Read(k, f, fd, n)
		if got != text || is != err {
			t.Fatalf("Read(%d, %d) = %.40q, %v, not %.40q, %v, of %s, %v", fd, n, got, is, text, err, told(was), f)
		}
		s.settle(t, "Read", want, err, k, was, made)
	default:
		text := wildText(r)
		want, n, err := s.w.write(s.proc, fd, text)
		made, got, is := open.Write(k, f, fd, text)
		if got != n || is != err {
			t.Fatalf("Write(%d, %.40q) = %d, %v, not %d, %v, of %s, %v", fd, text, got, is, n, err, told(was), f)
		}
		s.settle(t, "Write", want, err, k, was, made)
	}
}

// P9.2 to P9.7: calls by seeds, of several processes, one behind the other, against the chapter told another way.
func TestBySeeds(t *testing.T) {
	met := map[string]map[api.Errno]int{}
	for seed := range int64(500) {
		r := rand.New(rand.NewSource(seed))
		s := step{w: grown(r), r: r}
		for range 60 {
			s.make(t)
			if t.Failed() {
				t.Fatalf("seed %d: %s", seed, s.what)
			}
			if met[s.what] == nil {
				met[s.what] = map[api.Errno]int{}
			}
			met[s.what][s.err]++
		}
	}
	for what, errs := range map[string][]api.Errno{
		"Open":  {api.OK, api.ErrNone, api.ErrFd, api.ErrAccess, api.ErrThere, api.ErrNotDir, api.ErrIsDir, api.ErrInval, api.ErrFds, api.ErrSpace, api.ErrName},
		"Close": {api.OK, api.ErrFd}, "Dup": {api.OK, api.ErrFd}, "Pipe": {api.OK, api.ErrFd, api.ErrInval, api.ErrFds}, "Fork": {api.OK}, "Exit": {api.OK},
		"Read":  {api.OK, api.ErrFd, api.ErrInval, api.ErrAgain},
		"Write": {api.OK, api.ErrFd, api.ErrPipe, api.ErrAgain, api.ErrBig, api.ErrSpace},
	} {
		for _, err := range errs {
			if met[what][err] < 20 {
				t.Errorf("%s told %v just %d times", what, err, met[what][err])
			}
		}
	}
}

// P9.9: Fork and Exit of the same descriptors leave all as it was, of all processes of worlds that grew; so do Dup to a closed one, and Close of it.
func TestThereAndGone(t *testing.T) {
	for seed := range int64(100) {
		w := grown(rand.New(rand.NewSource(seed)))
		k := w.kern()
		for _, f := range w.procs {
			holdSame(t, "Fork and Exit", open.Exit(open.Fork(k, f), f), k)
			to := slices.Index(f[:], 0)
			from := slices.IndexFunc(f[:], func(at int) bool { return at > 0 })
			if to < 0 || from < 0 {
				continue
			}
			made, fds, err := open.Dup(k, f, from, to)
			made, fds, closed := open.Close(made, fds, to)
			holdSame(t, "Dup and Close", made, k)
			if err != api.OK || closed != api.OK || fds != f {
				t.Errorf("Dup of %d to %d, and Close = %v, %v, %v", from, to, fds, err, closed)
			}
		}
		for _, f := range w.procs {
			k = open.Exit(k, f)
		}
		for i, d := range k.Opens {
			if d != (api.Open{}) {
				t.Errorf("behind all: the description %d is %v", i, d)
			}
		}
		for i, p := range k.Pipes {
			if p.Readers != 0 || p.Writers != 0 {
				t.Errorf("behind all: the pipe %d has %d readers and %d writers", i, p.Readers, p.Writers)
			}
		}
	}
}

// stream is a file and a pipe, one text going into both by pieces and out of both by others.
func stream(t *testing.T, r *rand.Rand, text string, size int) {
	k, f := open.New(sampleTree(), "")
	k, f, _ = open.Pipe(k, f, 3, 4, size)
	k, f, _ = open.Open(k, f, 5, rootIno, "n", api.HowFresh)
	k, f, _ = open.Open(k, f, 6, rootIno, "n", api.HowRead)
	var read [2]string
	left := [2]string{text, text}
	for range 100000 {
		i := r.Intn(2)
		var err api.Errno
		var n int
		var some string
		if r.Intn(2) == 0 {
			k, n, err = open.Write(k, f, 4+i, left[i][:r.Intn(min(len(left[i]), 40)+1)])
			left[i] = left[i][n:]
		} else {
			k, some, err = open.Read(k, f, 3+3*i, 1+r.Intn(40))
			read[i] += some
		}
		if err != api.OK && (err != api.ErrAgain || i == 1) {
			t.Fatalf("%d: %v", i, err)
		}
		if !strings.HasPrefix(text, read[i]) {
			t.Fatalf("%d: %q was read", i, read[i])
		}
		if read == [2]string{text, text} {
			break
		}
	}
	if read != [2]string{text, text} || k.Tree.Nodes[firstFreeIno].Data != text {
		t.Fatalf("%d and %d of %d bytes were read", len(read[0]), len(read[1]), len(text))
	}
	k, f, _ = open.Close(k, f, 4)
	for _, fd := range []int{3, 6} {
		if _, some, err := open.Read(k, f, fd, 1); some != "" || err != api.OK {
			t.Errorf("Read of %d at the end = %q, %v", fd, some, err)
		}
	}
}

// P9.8, P9.9: what goes into a file, and into a pipe, in whatever pieces, comes out in order.
func TestStreams(t *testing.T) {
	for seed := range int64(60) {
		r := rand.New(rand.NewSource(seed))
		text := ""
		for i := range r.Intn(60) {
			text += strconv.Itoa(i) + string([]byte{byte(r.Intn(256)), 0, 255})
		}
		stream(t, r, text, []int{1, 2, 3, 10, 64, 65536}[r.Intn(6)])
	}
}
