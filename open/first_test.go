package open_test

import (
	"strconv"
	"strings"
	"testing"

	"windlass/api"
	"windlass/open"
)

// first is the first error of a row that is one.
func first(errs ...api.Errno) api.Errno {
	for _, err := range errs {
		if err != api.OK {
			return err
		}
	}
	return api.OK
}

// when is an error, if it holds.
func when(holds bool, err api.Errno) api.Errno {
	if holds {
		return err
	}
	return api.OK
}

// P9.2: which error is told, by all choices of what may be wrong at once: the descriptor, the way, what is at the path, its Mode, no description free.
func TestFirstOfOpen(t *testing.T) {
	none, there, isDir, access, notDir, space := api.ErrNone, api.ErrThere, api.ErrIsDir, api.ErrAccess, api.ErrNotDir, api.ErrSpace
	paths := map[string][5]api.Errno{
		"f":            {},
		"n":            {none},
		"two":          {access, access, access, access, there},
		"d/g":          {access, 0, 0, access, there},
		"d":            {isDir, isDir, isDir, isDir, isDir},
		"shut":         {access, isDir, isDir, isDir, isDir},
		"shut/x":       {access, access, access, access, access},
		"":             {none, none, none, none, none},
		"f/x":          {notDir, notDir, notDir, notDir, notDir},
		"dead":         {none, there, there, there, there},
		"n/":           {none, notDir, notDir, notDir, notDir},
		"d/n" + "\x00": {none, api.ErrInval, api.ErrInval, api.ErrInval, api.ErrInval},
	}
	for _, fd := range []int{-1, 0, 3, 8, 9, 10} {
		for how := -1; how < 6; how++ {
			for _, full := range []bool{false, true} {
				for _, crowd := range []bool{false, true} {
					for p, errs := range paths {
						k, f := sample()
						k.Tree.Nodes[twoIno].Mode, k.Tree.Nodes[gIno].Mode = 0, 2
						k.Tree.Nodes[firstFreeIno] = api.Inode{Kind: api.InDir, Mode: 2, Links: 1}
						k.Tree.Nodes[rootIno].Kids = entries("d", dirIno, "dead", deadIno, "f", fileIno, "ld", ldIno, "lf", lfIno, "shut", firstFreeIno, "two", twoIno)
						if full {
							k.Tree.Nodes = k.Tree.Nodes[:lastIno]
						}
						if crowd {
							k = crowded(k, 64)
						}
						holdFit(t, "what may be wrong", k, f)
						var err api.Errno
						if how >= 0 && how < 5 {
							err = first(errs[how], when(p == "f" && how == 4, there), when(full && p == "n", space), when(crowd, api.ErrFds))
						}
						want := first(when(fd < 0 || fd > 9, api.ErrFd), when(how < 0 || how > 4, api.ErrInval), err)
						what := "Open of " + strconv.Quote(p) + " on " + strconv.Itoa(fd) + ", " + strconv.Itoa(how)
						if want != api.OK {
							given{k, f}.fails(t, what, opening(fd, rootIno, p, how), want)
						} else if made, fds, err := open.Open(k, f, fd, rootIno, p, how); err != api.OK {
							t.Errorf("%s = %v", what, err)
						} else {
							holdFit(t, what, made, fds)
						}
					}
				}
			}
		}
	}
}

// P9.3: Close and Dup tell one error alone; from is asked ahead of from being to.
func TestFirstOfDup(t *testing.T) {
	k, f := sample()
	for _, from := range []int{-1, 6, 9, 10} {
		for to := -1; to < 11; to++ {
			given{k, f}.fails(t, "Dup", duping(from, to), api.ErrFd)
		}
	}
}

// P9.4: which error is told, by all choices: a descriptor that is none, r that is w, the size, no pipe free, one description free, or none.
func TestFirstOfPipe(t *testing.T) {
	for _, r := range []int{-1, 0, 6, 10} {
		for _, w := range []int{-1, 0, 6, 9, 10} {
			for _, size := range []int{-1, 0, 1, 65536, 65537} {
				for _, pipes := range []int{5, 32} {
					for _, free := range [][]int{nil, {4}, {4, 63}} {
						k, f := piped(pipes)
						k = crowded(k, 64, free...)
						want := first(
							when(r < 0 || r > 9 || w < 0 || w > 9, api.ErrFd), when(r == w, api.ErrInval), when(size < 1 || size > 65536, api.ErrInval),
							when(pipes == 32, api.ErrFds), when(len(free) < 2, api.ErrFds),
						)
						what := "Pipe of " + strconv.Itoa(r) + ", " + strconv.Itoa(w) + ", " + strconv.Itoa(size)
						if want != api.OK {
							given{k, f}.fails(t, what, piping(r, w, size), want)
						} else if made, fds, err := open.Pipe(k, f, r, w, size); err != api.OK {
							t.Errorf("%s = %v", what, err)
						} else {
							holdFit(t, what, made, fds)
						}
					}
				}
			}
		}
	}
}

// P9.5: which error is told, by all choices: the descriptor, its Flags, n, a pipe without bytes.
func TestFirstOfRead(t *testing.T) {
	for fd := -1; fd < 11; fd++ {
		for _, n := range []int{-1, 0, 1, 5} {
			for _, empty := range []bool{false, true} {
				k, f := sample()
				if empty {
					k.Pipes[1].Data = ""
				}
				_, readable := map[int]int{0: 0, 3: 0, 4: 0, 7: 0}[fd]
				want := first(when(!readable, api.ErrFd), when(n < 1, api.ErrInval), when(fd == 4 && empty, api.ErrAgain))
				_, text, err := open.Read(k, f, fd, n)
				if err != want || err != api.OK && text != "" || err == api.OK && text == "" {
					t.Errorf("Read of %d, %d = %q, %v, not %v", fd, n, text, err, want)
				}
			}
		}
	}
}

// P9.6: which error is told, by all choices: the descriptor, its Flags, a file that would be too big, a tree without room, a pipe that is full and that nobody reads, Outs that are full.
func TestFirstOfWrite(t *testing.T) {
	for fd := -1; fd < 11; fd++ {
		for _, s := range []string{"", "a", strings.Repeat("b", 65536)} {
			for _, full := range []bool{false, true} {
				for _, unread := range []bool{false, true} {
					k, f := sample()
					if full {
						k.Tree.MaxBytes, k.Outs[0], k.Outs[1], k.Pipes[1].Cap = 24, strings.Repeat("o", 65536), strings.Repeat("o", 65536), 4
						k.Opens[3].Off = 5
					}
					if unread {
						k.Opens[5], k.Pipes[1].Readers = api.Open{}, 0
						f[4] = 0
					}
					holdFit(t, "what may be wrong", k, f)
					var errs api.Errno
					some, long := s != "", len(s) > 1
					switch fd {
					case 1, 2:
						errs = when(full && some || long, api.ErrSpace)
					case 3, 7, 8: // at 2, or at 5, or at the end, which is at 5
						errs = first(when(long, api.ErrBig), when(full && some, api.ErrSpace))
					case 5:
						errs = first(when(unread, api.ErrPipe), when(full && some, api.ErrAgain))
					default:
						errs = api.ErrFd
					}
					_, n, err := open.Write(k, f, fd, s)
					if err != errs || err != api.OK && n != 0 || err == api.OK && some && n == 0 {
						t.Errorf("Write of %d, %d bytes, full %v, unread %v = %d, %v, not %v", fd, len(s), full, unread, n, err, errs)
					}
				}
			}
		}
	}
}
