package open_test

import (
	"strconv"
	"strings"
	"testing"

	"windlass/api"
	"windlass/open"
)

// gone is what is done to the sample as one of its descriptors is closed: those that are closed already have none.
func gone(fd int) func(k *api.Kern) {
	return map[int]func(k *api.Kern){
		0: func(k *api.Kern) { k.Opens[0], k.Pipes[0].Readers = api.Open{}, 0 },
		1: func(k *api.Kern) { k.Opens[1].Refs-- },
		2: func(k *api.Kern) { k.Opens[2] = api.Open{} },
		3: func(k *api.Kern) { k.Opens[3].Refs-- },
		4: func(k *api.Kern) { k.Opens[5], k.Pipes[1].Readers = api.Open{}, 0 },
		5: func(k *api.Kern) { k.Opens[6].Refs-- },
		7: func(k *api.Kern) { k.Opens[3].Refs-- },
		8: func(k *api.Kern) { k.Opens[8] = api.Open{} },
	}[fd]
}

// P9.3: Close of each descriptor: of one Ref and of more, of a pipe's last end, one that is closed, one that is none.
func TestClose(t *testing.T) {
	k, f := sample()
	for fd := range 10 {
		what := "Close of " + strconv.Itoa(fd)
		if change := gone(fd); change != nil {
			told := given{k, f}.hold(t, what, closing(fd), with(k, change), set(f, fd, 0))
			told.fails(t, what+" again", closing(fd), api.ErrFd)
		} else {
			given{k, f}.fails(t, what, closing(fd), api.ErrFd)
		}
	}
	for _, fd := range append(extremes(), 10, 11) {
		given{k, f}.fails(t, "Close of no descriptor", closing(fd), api.ErrFd)
	}
}

// P9.3: two that share a description, closed one behind the other: the last one takes it along.
func TestCloseShared(t *testing.T) {
	k, f := sample()
	for _, pair := range [][2]int{{3, 7}, {7, 3}} {
		told := given{k, f}.hold(t, "Close", closing(pair[0]), with(k, func(k *api.Kern) { k.Opens[3].Refs = 1 }), set(f, pair[0], 0))
		told.hold(t, "Close of the other one", closing(pair[1]), with(k, func(k *api.Kern) { k.Opens[3] = api.Open{} }), set(set(f, 3, 0), 7, 0))
	}
}

// P9.3: the last end of a pipe: both go one behind the other, the pipe's bytes stay; those that wrote it get ErrPipe then, those that read it its end.
func TestCloseEnds(t *testing.T) {
	k, f := open.New(sampleTree(), "")
	k, f, err := open.Pipe(k, f, 4, 5, 9)
	k, _, _ = open.Write(k, f, 5, "bytes")
	if err != api.OK {
		t.Fatalf("Pipe = %v", err)
	}
	unread := given{k, f}.hold(t, "Close of the reading end", closing(4), with(k, func(k *api.Kern) { k.Opens[3], k.Pipes[1].Readers = api.Open{}, 0 }), set(f, 4, 0))
	unread.holdWrite(t, 5, "more", 0, api.ErrPipe, unread.k)
	unread.hold(t, "Close of both", closing(5), with(unread.k, func(k *api.Kern) { k.Opens[4], k.Pipes[1].Writers = api.Open{}, 0 }), set(unread.f, 5, 0))
	unwritten := given{k, f}.hold(t, "Close of the writing end", closing(5), with(k, func(k *api.Kern) { k.Opens[4], k.Pipes[1].Writers = api.Open{}, 0 }), set(f, 5, 0))
	read := unwritten.holdRead(t, 4, 9, "bytes", api.OK, with(unwritten.k, func(k *api.Kern) { k.Pipes[1].Data = "" }))
	read.holdRead(t, 4, 9, "", api.OK, read.k)
}

// P9.3: the pipe 0's Writers may be fewer than its descriptions: closed one by one these take away what there is.
func TestCloseFirstPipe(t *testing.T) {
	for writers := range 4 {
		k, f := open.New(sampleTree(), "in")
		k.Pipes[0].Writers = writers
		for fd := 3; fd < 6; fd++ {
			k.Opens = append(k.Opens, api.Open{Kind: api.OpWrite, At: 0, Flags: api.FlWrite, Refs: 1})
			f[fd] = fd + 1
		}
		g := given{k, f}
		for fd := 3; fd < 6; fd++ {
			writers = max(writers-1, 0)
			g = g.hold(t, "Close of an end of the pipe 0", closing(fd), with(g.k, func(k *api.Kern) { k.Opens[fd], k.Pipes[0].Writers = api.Open{}, writers }), set(g.f, fd, 0))
		}
		if g.k.Pipes[0].Writers != 0 {
			t.Errorf("%d Writers are left", g.k.Pipes[0].Writers)
		}
	}
}

// P9.3: Dup of each descriptor to each.
func TestDup(t *testing.T) {
	for from := -1; from < 11; from++ {
		for to := -1; to < 11; to++ {
			k, f := sample()
			what := "Dup of " + strconv.Itoa(from) + " to " + strconv.Itoa(to)
			switch {
			case from < 0 || from > 9 || to < 0 || to > 9 || gone(from) == nil:
				given{k, f}.fails(t, what, duping(from, to), api.ErrFd)
			case from == to:
				given{k, f}.hold(t, what, duping(from, to), k, f)
			default:
				given{k, f}.hold(t, what, duping(from, to), with(k, func(k *api.Kern) {
					if gone(to) != nil {
						gone(to)(k)
					}
					k.Opens[f[from]-1].Refs++
				}), set(f, to, f[from]))
			}
		}
	}
	k, f := sample()
	for _, x := range extremes() {
		for fd := -1; fd < 11; fd++ {
			given{k, f}.fails(t, "Dup of no descriptor", duping(x, fd), api.ErrFd)
			given{k, f}.fails(t, "Dup to no descriptor", duping(fd, x), api.ErrFd)
		}
		given{k, f}.fails(t, "Dup of none to none", duping(x, x), api.ErrFd)
	}
}

// P9.3: some of it, by hand: to another closed one, to one of the same description, to the last one of a pipe's end.
func TestDupByHand(t *testing.T) {
	k, f := sample()
	given{k, f}.hold(t, "Dup to a closed one", duping(0, 9), with(k, func(k *api.Kern) { k.Opens[0].Refs = 2 }), api.Fds{1, 2, 3, 4, 6, 7, 0, 4, 9, 1})
	given{k, f}.hold(t, "Dup to one of the same description", duping(3, 7), k, f)
	given{k, f}.hold(t, "Dup to itself", duping(8, 8), k, f)
	given{k, f}.hold(t, "Dup to the last reader", duping(5, 4), with(k, func(k *api.Kern) {
		k.Opens[5], k.Pipes[1].Readers, k.Opens[6].Refs = api.Open{}, 0, 4
	}), api.Fds{1, 2, 3, 4, 7, 7, 0, 4, 9, 0})
	told := given{k, f}.hold(t, "Dup of a file", duping(3, 1), with(k, func(k *api.Kern) { k.Opens[1].Refs, k.Opens[3].Refs = 1, 3 }), set(f, 1, 4))
	// They have one Off.
	read := told.holdRead(t, 1, 1, "l", api.OK, with(told.k, func(k *api.Kern) { k.Opens[3].Off = 3 }))
	read.holdRead(t, 7, 9, "lo", api.OK, with(read.k, func(k *api.Kern) { k.Opens[3].Off = 5 }))
}

// P9.4: Pipe, at the first pipe that is free, of two descriptions, the reading one first; r and w open and closed.
func TestPipe(t *testing.T) {
	for r := range 10 {
		for w := range 10 {
			k, f := sample()
			what := "Pipe on " + strconv.Itoa(r) + " and " + strconv.Itoa(w)
			if r == w {
				given{k, f}.fails(t, what, piping(r, w, 7), api.ErrInval)
				continue
			}
			given{k, f}.hold(t, what, piping(r, w, 7), with(k, func(k *api.Kern) {
				for _, fd := range []int{r, w} {
					if gone(fd) != nil {
						gone(fd)(k)
					}
				}
				if r == 3 && w == 7 || r == 7 && w == 3 {
					k.Opens[3] = api.Open{}
				}
				k.Pipes[2] = api.Pipe{Data: "", Readers: 1, Writers: 1, Cap: 7}
				k.Opens[4] = api.Open{Kind: 2, At: 2, Flags: 1, Refs: 1}
				k.Opens[10] = api.Open{Kind: 3, At: 2, Flags: 2, Refs: 1}
			}), set(set(f, r, 5), w, 11))
		}
	}
}

// P9.4: descriptors that are none, r that is w, sizes that pipe.New refuses and that it doesn't.
func TestPipeWrong(t *testing.T) {
	k, f := sample()
	for _, x := range append(extremes(), 10) {
		for fd := -1; fd < 11; fd++ {
			for _, size := range []int{0, 5} {
				given{k, f}.fails(t, "Pipe on no descriptor", piping(x, fd, size), api.ErrFd)
				given{k, f}.fails(t, "Pipe on no descriptor", piping(fd, x, size), api.ErrFd)
				given{k, f}.fails(t, "Pipe on no descriptor", piping(x, x, size), api.ErrFd)
			}
		}
		if x < 1 || x > 65536 {
			given{k, f}.fails(t, "Pipe of no size", piping(6, 9, x), api.ErrInval)
		}
	}
	given{k, f}.fails(t, "Pipe of size 0", piping(6, 9, 0), api.ErrInval)
	for _, size := range []int{1, 2, 64, 65535, 65536} {
		given{k, f}.hold(t, "Pipe of a size", piping(9, 6, size), with(k, func(k *api.Kern) {
			k.Pipes[2] = api.Pipe{Readers: 1, Writers: 1, Cap: size}
			k.Opens[4], k.Opens[10] = api.Open{Kind: 2, At: 2, Flags: 1, Refs: 1}, api.Open{Kind: 3, At: 2, Flags: 2, Refs: 1}
		}), set(set(f, 9, 5), 6, 11))
	}
}

// piped is the sample with so many pipes in all, those that are more being free or not; the pipe 2 isn't free.
func piped(pipes int, free ...int) (api.Kern, api.Fds) {
	k, f := sample()
	for i := 2; i < pipes; i++ {
		if i == 3 || i == 4 {
			continue
		}
		p := api.Pipe{Data: "left", Readers: 1, Cap: 4}
		for _, x := range free {
			if x == i {
				p.Readers = 0
			}
		}
		if i < len(k.Pipes) {
			k.Pipes[i] = p
		} else {
			k.Pipes = append(k.Pipes, p)
		}
		if p.Readers == 1 {
			k.Opens = append(k.Opens, api.Open{Kind: api.OpRead, At: i, Flags: api.FlRead, Refs: 1})
		}
	}
	return k, f
}

// P9.4: none that is free: a new one behind all; 32 pipes; the first one that is free of several.
func TestPipeFree(t *testing.T) {
	two := func(k *api.Kern, at int) {
		if at == len(k.Pipes) {
			k.Pipes = append(k.Pipes, api.Pipe{})
		}
		k.Pipes[at] = api.Pipe{Readers: 1, Writers: 1, Cap: 3}
		k.Opens[4], k.Opens[10] = api.Open{Kind: 2, At: at, Flags: 1, Refs: 1}, api.Open{Kind: 3, At: at, Flags: 2, Refs: 1}
	}
	for pipes := 5; pipes <= 32; pipes++ {
		k, f := piped(pipes)
		holdFit(t, "many pipes", k, f)
		if pipes == 32 {
			for fd := range 9 {
				given{k, f}.fails(t, "Pipe, no pipe free", piping(9, fd, 3), api.ErrFds)
			}
			continue
		}
		given{k, f}.hold(t, "Pipe behind all", piping(9, 6, 3), with(k, func(k *api.Kern) { two(k, pipes) }), set(set(f, 9, 5), 6, 11))
	}
	for free := 2; free < 32; free++ {
		if free == 3 || free == 4 {
			continue
		}
		k, f := piped(32, free)
		given{k, f}.hold(t, "Pipe, one free", piping(9, 6, 3), with(k, func(k *api.Kern) { two(k, free) }), set(set(f, 9, 5), 6, 11))
		k, f = piped(32, free, 31)
		given{k, f}.hold(t, "Pipe, two free", piping(9, 6, 3), with(k, func(k *api.Kern) { two(k, free) }), set(set(f, 9, 5), 6, 11))
	}
}

// P9.4: the pipe 0 is never taken, be it without Readers and Writers; a kernel without pipes gets one.
func TestPipeFirst(t *testing.T) {
	k, f := open.New(sampleTree(), "in")
	k, f, _ = open.Close(k, f, 0)
	given{k, f}.hold(t, "Pipe beside a pipe 0 that all left", piping(0, 9, 3), with(k, func(k *api.Kern) {
		k.Pipes = append(k.Pipes, api.Pipe{Readers: 1, Writers: 1, Cap: 3})
		k.Opens[0] = api.Open{Kind: 2, At: 1, Flags: 1, Refs: 1}
		k.Opens = append(k.Opens, api.Open{Kind: 3, At: 1, Flags: 2, Refs: 1})
	}), set(set(f, 0, 1), 9, 4))
	many, fds := piped(32)
	many, fds, _ = open.Close(many, fds, 0)
	given{many, fds}.fails(t, "Pipe beside a pipe 0 that all left, and 31 others", piping(0, 9, 3), api.ErrFds)
	none := api.Kern{Tree: sampleTree()}
	given{none, api.Fds{}}.hold(t, "Pipe without pipes", piping(3, 2, 1), api.Kern{
		Tree:  none.Tree,
		Pipes: []api.Pipe{{Readers: 1, Writers: 1, Cap: 1}},
		Opens: []api.Open{{Kind: 2, At: 0, Flags: 1, Refs: 1}, {Kind: 3, At: 0, Flags: 2, Refs: 1}},
	}, api.Fds{0, 0, 2, 1})
}

// P9.4: descriptions for both ends: two free, one free and one behind all, both behind all, just one, none; what falls free with what is closed comes too late.
func TestPipeDescriptions(t *testing.T) {
	for _, x := range []struct {
		opens       int
		free        []int
		read, write int
	}{
		{12, []int{4, 10}, 4, 10}, {12, []int{10}, 10, 12}, {12, nil, 12, 13}, {62, nil, 62, 63}, {63, []int{4}, 4, 63}, {63, []int{62}, 62, 63},
		{64, []int{4, 10}, 4, 10}, {64, []int{12, 63}, 12, 63}, {64, []int{62, 63}, 62, 63}, {64, []int{20, 30, 40}, 20, 30},
	} {
		k, f := sample()
		k = crowded(k, x.opens, x.free...)
		want := with(k, func(k *api.Kern) {
			for len(k.Opens) <= x.write {
				k.Opens = append(k.Opens, api.Open{})
			}
			k.Pipes[2] = api.Pipe{Readers: 1, Writers: 1, Cap: 3}
			k.Opens[x.read], k.Opens[x.write] = api.Open{Kind: 2, At: 2, Flags: 1, Refs: 1}, api.Open{Kind: 3, At: 2, Flags: 2, Refs: 1}
			k.Opens[2], k.Opens[8] = api.Open{}, api.Open{}
		})
		given{k, f}.hold(t, "Pipe", piping(2, 8, 3), want, set(set(f, 2, x.read+1), 8, x.write+1))
	}
	for _, x := range []struct {
		opens int
		free  []int
	}{{63, nil}, {64, nil}, {64, []int{4}}, {64, []int{10}}, {64, []int{63}}} {
		k, f := sample()
		k = crowded(k, x.opens, x.free...)
		for r := range 10 {
			for w := range 10 {
				if r != w {
					given{k, f}.fails(t, "Pipe, not two descriptions free", piping(r, w, 3), api.ErrFds)
				}
			}
		}
	}
}

// P9.4: a pipe that falls free with what is closed is not taken by this call, but by the next one.
func TestPipeFallsFree(t *testing.T) {
	k, f := open.New(sampleTree(), "")
	k, f, _ = open.Pipe(k, f, 3, 4, 2)
	told := given{k, f}.hold(t, "Pipe in a pipe's place", piping(4, 3, 5), with(k, func(k *api.Kern) {
		k.Pipes[1] = api.Pipe{Cap: 2}
		k.Pipes = append(k.Pipes, api.Pipe{Readers: 1, Writers: 1, Cap: 5})
		k.Opens[3], k.Opens[4] = api.Open{}, api.Open{}
		k.Opens = append(k.Opens, api.Open{Kind: 2, At: 2, Flags: 1, Refs: 1}, api.Open{Kind: 3, At: 2, Flags: 2, Refs: 1})
	}), set(set(f, 4, 6), 3, 7))
	told.hold(t, "Pipe in its place again", piping(3, 4, 6), with(told.k, func(k *api.Kern) {
		k.Pipes[1], k.Pipes[2] = api.Pipe{Readers: 1, Writers: 1, Cap: 6}, api.Pipe{Cap: 5}
		k.Opens[3], k.Opens[4] = api.Open{Kind: 2, At: 1, Flags: 1, Refs: 1}, api.Open{Kind: 3, At: 1, Flags: 2, Refs: 1}
		k.Opens = k.Opens[:5]
		k.Opens = append(k.Opens, api.Open{}, api.Open{})
	}), set(set(told.f, 3, 4), 4, 5))
}

// holdFork wants Fork to tell such a kernel, which is fit, and to leave what it was given.
func holdFork(t *testing.T, k api.Kern, f api.Fds, want api.Kern) api.Kern {
	t.Helper()
	was := copied(k)
	told := open.Fork(k, f)
	holdSame(t, "Fork", told, want)
	holdSame(t, "what Fork was given", k, was)
	holdFit(t, "Fork", told, f)
	return told
}

// holdExit wants Exit to tell such a kernel, likewise.
func holdExit(t *testing.T, k api.Kern, f api.Fds, want api.Kern) {
	t.Helper()
	was := copied(k)
	told := open.Exit(k, f)
	holdSame(t, "Exit", told, want)
	holdSame(t, "what Exit was given", k, was)
	holdFit(t, "Exit", told, api.Fds{})
}

// P9.4, P9.9: Fork and Exit of descriptors that share descriptions; one behind the other they leave all as it was.
func TestForkExit(t *testing.T) {
	k, f := sample()
	told := holdFork(t, k, f, with(k, func(k *api.Kern) {
		for place, more := range map[int]int{0: 1, 1: 1, 2: 1, 3: 2, 5: 1, 6: 1, 8: 1} {
			k.Opens[place].Refs += more
		}
	}))
	holdExit(t, told, f, k)
	holdExit(t, k, f, with(k, func(k *api.Kern) {
		for _, place := range []int{0, 2, 3, 5, 8} {
			k.Opens[place] = api.Open{}
		}
		k.Opens[1].Refs, k.Opens[6].Refs = 1, 2
		k.Pipes[0].Readers, k.Pipes[1].Readers = 0, 0
	}))
}

// P9.4, P9.9: of the other processes of the sample; all of them gone, no description is left, and no pipe has an end.
func TestExitAll(t *testing.T) {
	k, f := sample()
	for _, f := range others() {
		holdExit(t, open.Fork(k, f), f, k)
	}
	for _, f := range append(others(), f) {
		k = open.Exit(k, f)
	}
	want, _ := sample()
	want.Opens = make([]api.Open, 12)
	for i := range want.Pipes {
		want.Pipes[i].Readers, want.Pipes[i].Writers = 0, 0
	}
	holdSame(t, "behind all", k, want)
	holdFit(t, "behind all", k, api.Fds{})
}

// P9.4: all closed: nothing is done; all ten of one description.
func TestForkEdges(t *testing.T) {
	k, _ := sample()
	holdFork(t, k, api.Fds{}, k)
	holdExit(t, k, api.Fds{}, k)
	all := api.Fds{9, 9, 9, 9, 9, 9, 9, 9, 9, 9}
	k.Opens[8].Refs = 10
	told := holdFork(t, k, all, with(k, func(k *api.Kern) { k.Opens[8].Refs = 20 }))
	holdExit(t, told, all, k)
	holdExit(t, k, all, with(k, func(k *api.Kern) { k.Opens[8] = api.Open{} }))
	k.Opens[8].Refs = 900
	holdFork(t, k, all, with(k, func(k *api.Kern) { k.Opens[8].Refs = 910 }))
	holdExit(t, k, all, with(k, func(k *api.Kern) { k.Opens[8].Refs = 890 }))
	for fd := range 10 {
		one := api.Fds{}
		one[fd] = 9
		holdFork(t, k, one, with(k, func(k *api.Kern) { k.Opens[8].Refs = 901 }))
		holdExit(t, k, one, with(k, func(k *api.Kern) { k.Opens[8].Refs = 899 }))
	}
}

// P9.9: a pipe tells its end just as all that could write it are closed, whichever processes have them.
func TestEnd(t *testing.T) {
	k, f := open.New(sampleTree(), "")
	k, f, _ = open.Pipe(k, f, 3, 4, 64)
	k, f, _ = open.Dup(k, f, 4, 5)
	k = open.Fork(k, f) // a second process has the same
	other := f
	k, _, _ = open.Write(k, other, 4, strings.Repeat("t", 10))
	holdEnd := func(what string, end bool) {
		t.Helper()
		waits := k.Pipes[1].Data
		_, text, err := open.Read(k, f, 3, 100)
		want := api.ErrAgain
		if end || waits != "" {
			want = api.OK
		}
		if text != waits || err != want {
			t.Errorf("%s: Read = %q, %v, not %q, %v", what, text, err, waits, want)
		}
	}
	holdEnd("with bytes", false)
	k, _, _ = open.Read(k, f, 3, 100)
	holdEnd("with four writers", false)
	k, f, _ = open.Close(k, f, 4)
	holdEnd("with three", false)
	k, f, _ = open.Close(k, f, 5)
	holdEnd("with those of the other process", false)
	k, other, _ = open.Close(k, other, 4)
	holdEnd("with one", false)
	holdFit(t, "with one", k, f)
	k = open.Exit(k, other)
	holdEnd("with none", true)
	holdFit(t, "with none", k, f)
}
