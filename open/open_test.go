package open_test

import (
	"strconv"
	"strings"
	"testing"

	"windlass/api"
	"windlass/open"
	"windlass/tree"
)

// P9.1 to P9.6: the chapter's example.
func TestExample(t *testing.T) {
	s, _ := tree.New(4, 100)
	k, f := open.New(s, "in")
	k, text, err := open.Read(k, f, 0, 100)
	if text != "in" || err != api.OK {
		t.Errorf("Read of 0 = %q, %v", text, err)
	}
	k, text, err = open.Read(k, f, 0, 100)
	if text != "" || err != api.OK {
		t.Errorf("Read of 0 at its end = %q, %v", text, err)
	}
	k, f, err = open.Open(k, f, 3, 0, "f", api.HowWrite)
	if err != api.OK {
		t.Fatalf("Open of f = %v", err)
	}
	k, n, err := open.Write(k, f, 3, "x")
	if n != 1 || err != api.OK {
		t.Errorf("Write of x = %d, %v", n, err)
	}
	k, f, err = open.Dup(k, f, 3, 1)
	if err != api.OK {
		t.Errorf("Dup of 3 to 1 = %v", err)
	}
	k, n, err = open.Write(k, f, 1, "y")
	if n != 1 || err != api.OK {
		t.Errorf("Write of y = %d, %v", n, err)
	}
	if data := k.Tree.Nodes[1].Data; data != "xy" || k.Outs[0] != "" {
		t.Errorf("the file has %q, %q was put out", data, k.Outs[0])
	}
	if want := (api.Open{Kind: api.OpFile, At: 1, Off: 2, Flags: api.FlWrite, Refs: 2}); k.Opens[3] != want || k.Opens[1] != (api.Open{}) {
		t.Errorf("the descriptions are %v", k.Opens)
	}
	holdFit(t, "behind the example", k, f)
}

// P9.1: New of an input that is empty, of one byte, of 65536.
func TestNew(t *testing.T) {
	small, _ := tree.New(1, 0)
	for _, s := range []api.Tree{small, sampleTree()} {
		for input, size := range map[string]int{"": 1, "a": 1, "\x00": 1, "ab": 2, "in\n\xff\x00": 5, strings.Repeat("x", 65535): 65535, strings.Repeat("x", 65536): 65536} {
			was := copied(api.Kern{Tree: s})
			k, f := open.New(s, input)
			want := api.Kern{
				Tree:  was.Tree,
				Pipes: []api.Pipe{{Data: input, Readers: 1, Writers: 0, Cap: size}},
				Opens: []api.Open{{Kind: 2, At: 0, Off: 0, Flags: 1, Refs: 1}, {Kind: 4, At: 0, Off: 0, Flags: 2, Refs: 1}, {Kind: 4, At: 1, Off: 0, Flags: 2, Refs: 1}},
				Outs:  [2]string{"", ""},
			}
			what := "New of " + strconv.Itoa(len(input)) + " bytes"
			holdSame(t, what, k, want)
			if f != (api.Fds{1, 2, 3, 0, 0, 0, 0, 0, 0, 0}) {
				t.Errorf("%s: %v", what, f)
			}
			holdFit(t, what, k, f)
			holdSame(t, "what New was given", api.Kern{Tree: s}, was)
		}
	}
}

// P9.1: what New has waiting is read, in any pieces, and then its end is told; what is put out stands in Outs.
func TestNewIsRead(t *testing.T) {
	input := strings.Repeat("0123456789abcde\n", 4096)
	for _, n := range []int{1000, 65535, 65536, 65537} {
		k, f := open.New(sampleTree(), input)
		read, text, err := "", "-", api.OK
		for text != "" {
			k, text, err = open.Read(k, f, 0, n)
			read += text
		}
		if read != input || err != api.OK {
			t.Errorf("by %d: %d bytes were read, %v", n, len(read), err)
		}
		k, _, _ = open.Write(k, f, 1, "o")
		k, _, _ = open.Write(k, f, 2, "e")
		if k.Outs != [2]string{"o", "e"} {
			t.Errorf("%q was put out", k.Outs)
		}
	}
}

// P9.1: Same asks each field.
func TestSame(t *testing.T) {
	changes := map[string]func(k *api.Kern){
		"a tree's limit":      func(k *api.Kern) { k.Tree.MaxBytes-- },
		"a tree's nodes":      func(k *api.Kern) { k.Tree.MaxNodes++ },
		"an inode":            func(k *api.Kern) { k.Tree.Nodes[fileIno].Mode = 4 },
		"a file's bytes":      func(k *api.Kern) { k.Tree.Nodes[fileIno].Data = "hellO" },
		"a name":              func(k *api.Kern) { k.Tree.Nodes[dirIno].Kids[0].Name = "h" },
		"an inode less":       func(k *api.Kern) { k.Tree.Nodes = k.Tree.Nodes[:lastIno] },
		"a pipe's Data":       func(k *api.Kern) { k.Pipes[1].Data = "pi\xfe\x01" },
		"a pipe's Readers":    func(k *api.Kern) { k.Pipes[1].Readers++ },
		"a pipe's Writers":    func(k *api.Kern) { k.Pipes[0].Writers++ },
		"a pipe's Cap":        func(k *api.Kern) { k.Pipes[4].Cap++ },
		"a pipe less":         func(k *api.Kern) { k.Pipes = k.Pipes[:4] },
		"a pipe more":         func(k *api.Kern) { k.Pipes = append(k.Pipes, api.Pipe{}) },
		"no pipes":            func(k *api.Kern) { k.Pipes = nil },
		"a kind":              func(k *api.Kern) { k.Opens[0].Kind = api.OpWrite },
		"an At":               func(k *api.Kern) { k.Opens[1].At = 1 },
		"an Off":              func(k *api.Kern) { k.Opens[3].Off = 3 },
		"Flags":               func(k *api.Kern) { k.Opens[3].Flags = api.FlRead },
		"Refs":                func(k *api.Kern) { k.Opens[6].Refs = 2 },
		"a free description":  func(k *api.Kern) { k.Opens[4].Off = 1 },
		"a description less":  func(k *api.Kern) { k.Opens = k.Opens[:11] },
		"a description more":  func(k *api.Kern) { k.Opens = append(k.Opens, api.Open{}) },
		"two that are turned": func(k *api.Kern) { k.Opens[1], k.Opens[2] = k.Opens[2], k.Opens[1] },
		"what is put out":     func(k *api.Kern) { k.Outs[0] = "out" },
		"diagnostics":         func(k *api.Kern) { k.Outs[1] = "" },
		"outs that are turned": func(k *api.Kern) {
			k.Outs[0], k.Outs[1] = k.Outs[1], k.Outs[0]
		},
	}
	k, _ := sample()
	for what, change := range changes {
		other := with(k, change)
		if open.Same(k, other) || open.Same(other, k) {
			t.Errorf("Same with another one: %s", what)
		}
		if !open.Same(other, copied(other)) {
			t.Errorf("Same is false of a copy: %s", what)
		}
	}
	if !open.Same(k, k) || !open.Same(k, copied(k)) || !open.Same(api.Kern{}, api.Kern{}) {
		t.Error("Same is false of what is the same")
	}
	if !open.Same(api.Kern{}, api.Kern{Tree: api.Tree{Nodes: []api.Inode{}}, Pipes: []api.Pipe{}, Opens: []api.Open{}}) {
		t.Error("an empty list is none")
	}
}

// asked is the bits of a Mode that a way of opening asks for, and flagged the Flags that it gives, by hand.
var (
	asked   = map[int]int{0: 4, 1: 2, 2: 2, 3: 6, 4: 2}
	flagged = map[int]int{0: 1, 1: 2, 2: 6, 3: 3, 4: 2}
)

// P9.2: a file that is there, by several paths, in each way, with each Mode.
func TestOpenFile(t *testing.T) {
	for p, cwd := range map[string]int{"f": rootIno, "/f": dirIno, "lf": rootIno, "../f": dirIno, "./d/../lf": rootIno, "ld/../f": rootIno} {
		for how := range 5 {
			for mode := range 8 {
				k, f := sample()
				k.Tree.Nodes[fileIno].Mode = mode
				what := "Open of " + p + " with " + strconv.Itoa(mode) + ", " + strconv.Itoa(how)
				switch {
				case how == 4:
					given{k, f}.fails(t, what, opening(6, cwd, p, how), api.ErrThere)
				case mode&asked[how] != asked[how]:
					given{k, f}.fails(t, what, opening(6, cwd, p, how), api.ErrAccess)
				default:
					given{k, f}.hold(t, what, opening(6, cwd, p, how), with(k, func(k *api.Kern) {
						k.Opens[4] = api.Open{Kind: 1, At: fileIno, Off: 0, Flags: flagged[how], Refs: 1}
						if how == 1 {
							k.Tree.Nodes[fileIno].Data = ""
						}
					}), set(f, 6, 5))
				}
			}
		}
	}
}

// P9.2: nothing at the path: a new file of Mode 6, in each way but to be read.
func TestOpenNew(t *testing.T) {
	for p, name := range map[string]string{"n": "n", "d/n": "n", "ld/n": "n", "./\xff\x01": "\xff\x01", "/d/./aaa": "aaa"} {
		for how := range 5 {
			k, f := sample()
			what := "Open of " + p + ", " + strconv.Itoa(how)
			if how == 0 {
				given{k, f}.fails(t, what, opening(9, rootIno, p, how), api.ErrNone)
				continue
			}
			told := given{k, f}.hold(t, what, opening(9, rootIno, p, how), with(k, func(k *api.Kern) {
				dir := &k.Tree.Nodes[rootIno]
				if strings.Contains(p, "d/") {
					dir = &k.Tree.Nodes[dirIno]
				}
				i := 0
				for i < len(dir.Kids) && dir.Kids[i].Name < name {
					i++
				}
				dir.Kids = append(dir.Kids[:i:i], append([]api.Entry{{Name: name, Ino: firstFreeIno}}, dir.Kids[i:]...)...)
				k.Tree.Nodes[firstFreeIno] = api.Inode{Kind: api.InFile, Mode: 6, Links: 1}
				k.Opens[4] = api.Open{Kind: 1, At: firstFreeIno, Off: 0, Flags: flagged[how], Refs: 1}
			}), set(f, 9, 5))
			// It is there now: of HowFresh it is one too many.
			told.fails(t, what+" again", opening(9, rootIno, p, 4), api.ErrThere)
		}
	}
}

// P9.2: directories, by their names and by links, in each way, with each Mode.
func TestOpenDir(t *testing.T) {
	for _, p := range []string{"d", "d/", "ld", "ld/", "/ld/.", "d/../d"} {
		for how := range 5 {
			for mode := range 8 {
				k, f := sample()
				k.Tree.Nodes[dirIno].Mode = mode
				want := api.ErrIsDir
				if how == 0 && mode < 4 {
					want = api.ErrAccess
				}
				if mode%2 == 0 && strings.Contains(p, "/.") { // it can't be searched
					want = api.ErrAccess
				}
				given{k, f}.fails(t, "Open of "+p+" with "+strconv.Itoa(mode)+", "+strconv.Itoa(how), opening(6, rootIno, p, how), want)
			}
		}
	}
	for _, p := range []string{"/", ".", "..", "d/.."} {
		for how := range 5 {
			k, f := sample()
			given{k, f}.fails(t, "Open of "+p, opening(0, rootIno, p, how), api.ErrIsDir)
		}
	}
}

// P9.2: errors of the way, of HowRead and of the other ones: where nothing is, make.Create's stand for walk.Walk's.
func TestOpenWays(t *testing.T) {
	for _, x := range []struct {
		p             string
		cwd           int
		read, written api.Errno
	}{
		{"", rootIno, api.ErrNone, api.ErrNone},
		{"f", fileIno, api.ErrNone, api.ErrNone}, {"n", -1, api.ErrNone, api.ErrNone}, {"n", firstFreeIno, api.ErrNone, api.ErrNone}, {"n", pastIno, api.ErrNone, api.ErrNone}, {"/f", lfIno, api.ErrNone, api.ErrNone},
		{"n", rootIno, api.ErrNone, api.OK}, {"n/", rootIno, api.ErrNone, api.ErrNotDir}, {"n/x", rootIno, api.ErrNone, api.ErrNone}, {"n/x/", rootIno, api.ErrNone, api.ErrNone},
		{"n\x00", rootIno, api.ErrNone, api.ErrInval}, {"d/\x00/", rootIno, api.ErrNone, api.ErrInval},
		{"dead", rootIno, api.ErrNone, api.ErrThere}, {"dead/", rootIno, api.ErrNone, api.ErrThere}, {"d/../dead", rootIno, api.ErrNone, api.ErrThere}, {"dead/x", rootIno, api.ErrNone, api.ErrNone}, {"n/..", rootIno, api.ErrNone, api.ErrNone}, {"n/.", rootIno, api.ErrNone, api.ErrNone},
		{"f/", rootIno, api.ErrNotDir, api.ErrNotDir}, {"f/x", rootIno, api.ErrNotDir, api.ErrNotDir}, {"lf/x", rootIno, api.ErrNotDir, api.ErrNotDir}, {"lf/", rootIno, api.ErrNotDir, api.ErrNotDir},
		{strings.Repeat("n", 64), rootIno, api.ErrNone, api.OK}, {strings.Repeat("n", 65), rootIno, api.ErrName, api.ErrName}, {"f/" + strings.Repeat("n", 65), rootIno, api.ErrName, api.ErrName},
		{strings.Repeat("./", 511) + "n", rootIno, api.ErrNone, api.OK}, {strings.Repeat("./", 512) + "n", rootIno, api.ErrName, api.ErrName},
	} {
		for how := range 5 {
			k, f := sample()
			want := x.written
			if how == 0 {
				want = x.read
			}
			what := "Open of " + strconv.Quote(x.p) + " from " + strconv.Itoa(x.cwd) + ", " + strconv.Itoa(how)
			if want != api.OK {
				given{k, f}.fails(t, what, opening(1, x.cwd, x.p, how), want)
				continue
			}
			made, fds, err := open.Open(k, f, 1, x.cwd, x.p, how)
			if err != api.OK || made.Tree.Nodes[firstFreeIno].Mode != 6 {
				t.Errorf("%s = %v", what, err)
			}
			holdFit(t, what, made, fds)
		}
	}
}

// P9.2: directories that may not be searched, or not be written, and links without end.
func TestOpenAccess(t *testing.T) {
	k, f := sample()
	loop := with(k, func(k *api.Kern) { k.Tree.Nodes[ldIno].Data = "ld" })
	for how := range 5 {
		given{loop, f}.fails(t, "Open of a loop", opening(1, rootIno, "ld", how), api.ErrLoop)
		for mode := range 8 {
			k := with(k, func(k *api.Kern) { k.Tree.Nodes[dirIno].Mode = mode })
			there := given{k, f}
			if mode&1 == 0 {
				there.fails(t, "Open of d/g", opening(1, rootIno, "d/g", how), api.ErrAccess)
				there.fails(t, "Open of d/n", opening(1, rootIno, "d/n", how), api.ErrAccess)
			} else if how != 0 && mode&2 == 0 {
				there.fails(t, "Open of d/n", opening(1, rootIno, "d/n", how), api.ErrAccess)
			} else if made, _, err := open.Open(k, f, 1, rootIno, "d/n", how); (err == api.OK) != (how != 0) || err == api.OK && made.Tree.Nodes[firstFreeIno].Kind != api.InFile {
				t.Errorf("Open of d/n with %d, %d = %v", mode, how, err)
			}
			// A file that is there may be written, be its directory written or not.
			if mode&1 == 1 && how != 4 {
				if _, _, err := open.Open(k, f, 1, rootIno, "d/g", how); err != api.OK {
					t.Errorf("Open of d/g with %d, %d = %v", mode, how, err)
				}
			}
		}
	}
}

// P9.2: a how that is none.
func TestOpenHow(t *testing.T) {
	for _, how := range append(extremes(), 5, 6, 7, 64) {
		for _, p := range []string{"f", "n", "d", "", "dead", "f/x"} {
			k, f := sample()
			for fd := range 10 {
				given{k, f}.fails(t, "Open in no way", opening(fd, rootIno, p, how), api.ErrInval)
			}
		}
	}
}

// P9.2: each descriptor, closed and open, with a description that others share, with the last one of a file, of a pipe's end, of what is put out.
func TestOpenFd(t *testing.T) {
	gone := map[int]func(k *api.Kern){
		0: func(k *api.Kern) { k.Opens[0], k.Pipes[0].Readers = api.Open{}, 0 },
		1: func(k *api.Kern) { k.Opens[1].Refs = 1 },
		2: func(k *api.Kern) { k.Opens[2] = api.Open{} },
		3: func(k *api.Kern) { k.Opens[3].Refs = 1 },
		4: func(k *api.Kern) { k.Opens[5], k.Pipes[1].Readers = api.Open{}, 0 },
		5: func(k *api.Kern) { k.Opens[6].Refs = 2 },
		6: func(*api.Kern) {},
		7: func(k *api.Kern) { k.Opens[3].Refs = 1 },
		8: func(k *api.Kern) { k.Opens[8] = api.Open{} },
		9: func(*api.Kern) {},
	}
	for fd, change := range gone {
		k, f := sample()
		given{k, f}.hold(t, "Open on "+strconv.Itoa(fd), opening(fd, dirIno, "g", api.HowBoth), with(k, func(k *api.Kern) {
			change(k)
			k.Opens[4] = api.Open{Kind: api.OpFile, At: gIno, Flags: 3, Refs: 1}
		}), set(f, fd, 5))
	}
	for _, fd := range append(extremes(), 10, 11) {
		k, f := sample()
		for _, p := range []string{"f", "n", "d"} {
			for how := -1; how < 6; how++ {
				given{k, f}.fails(t, "Open on no descriptor", opening(fd, rootIno, p, how), api.ErrFd)
			}
		}
	}
}

// P9.2: the first free description, or a new one behind all, if there are less than 64; fd's own isn't free yet.
func TestOpenFree(t *testing.T) {
	for opens := 12; opens <= 64; opens++ {
		k, f := sample()
		k = crowded(k, opens)
		holdFit(t, "a crowded kernel", k, f)
		want := with(k, func(k *api.Kern) {
			k.Opens = append(k.Opens, api.Open{Kind: api.OpFile, At: gIno, Flags: 2, Refs: 1})
			k.Opens[8] = api.Open{}
		})
		if opens < 64 {
			given{k, f}.hold(t, "Open behind all", opening(8, rootIno, "d/g", api.HowWrite), want, set(f, 8, opens+1))
			continue
		}
		for _, p := range []string{"f", "d/g", "n", "two"} {
			for fd := range 10 {
				for how := 1; how < 4; how++ {
					given{k, f}.fails(t, "Open, no description free", opening(fd, rootIno, p, how), api.ErrFds)
				}
			}
		}
		given{k, f}.fails(t, "Open, no description free", opening(6, rootIno, "f", api.HowRead), api.ErrFds)
		given{k, f}.fails(t, "Open, no description free", opening(6, rootIno, "n", api.HowFresh), api.ErrFds)
	}
	for free := 12; free < 64; free++ {
		k, f := sample()
		k = crowded(k, 64, free)
		given{k, f}.hold(t, "Open, one free", opening(6, rootIno, "f", api.HowRead), with(k, func(k *api.Kern) {
			k.Opens[free] = api.Open{Kind: api.OpFile, At: fileIno, Flags: 1, Refs: 1}
		}), set(f, 6, free+1))
		k = crowded(k, 64, free)
		k.Opens[63] = api.Open{}
		given{k, f}.hold(t, "Open, two free", opening(6, rootIno, "f", api.HowAppend), with(k, func(k *api.Kern) {
			k.Opens[min(free, 63)] = api.Open{Kind: api.OpFile, At: fileIno, Flags: 6, Refs: 1}
		}), set(f, 6, free+1))
	}
}

// P9.2: a tree that is full: files that are there are opened, cut and all; new ones aren't.
func TestOpenFull(t *testing.T) {
	k, f := sample()
	k.Tree.Nodes = k.Tree.Nodes[:firstFreeIno]
	k.Tree.MaxNodes = firstFreeIno
	_, k.Tree.MaxBytes = tree.Used(k.Tree)
	crowd := with(k, func(k *api.Kern) {
		kids := entries("g", gIno, "too", twoIno)
		for i := range 1022 {
			kids = append(kids, api.Entry{Name: "x" + strconv.Itoa(10000+i), Ino: gIno})
		}
		k.Tree.Nodes[dirIno].Kids = kids
		k.Tree.Nodes[gIno].Links += 1022
		k.Tree.Nodes = append(k.Tree.Nodes, api.Inode{})
		k.Tree.MaxNodes++
	})
	for how := range 5 {
		want := api.ErrSpace
		if how == 0 {
			want = api.ErrNone
		}
		given{k, f}.fails(t, "Open in a full tree", opening(6, rootIno, "n", how), want)
		given{crowd, f}.fails(t, "Open in a full directory", opening(6, rootIno, "d/n", how), want)
		if how == 4 {
			continue
		}
		given{k, f}.hold(t, "Open in a full tree", opening(6, rootIno, "f", how), with(k, func(k *api.Kern) {
			k.Opens[4] = api.Open{Kind: api.OpFile, At: fileIno, Flags: flagged[how], Refs: 1}
			if how == 1 {
				k.Tree.Nodes[fileIno].Data = ""
			}
		}), set(f, 6, 5))
	}
	// A file without bytes needs no room for them.
	k.Tree.Nodes = append(k.Tree.Nodes, api.Inode{})
	k.Tree.MaxNodes++
	if _, _, err := open.Open(k, f, 6, rootIno, "n", api.HowFresh); err != api.OK {
		t.Errorf("Open of a new file where no byte finds room = %v", err)
	}
}

// P9.2: what others had of a file that is cut is gone, their Off stays, and what they write stands there.
func TestOpenCuts(t *testing.T) {
	k, f := sample()
	k, f, err := open.Open(k, f, 6, rootIno, "f", api.HowWrite)
	if err != api.OK || k.Opens[3].Off != 2 {
		t.Fatalf("Open = %v, Off %d", err, k.Opens[3].Off)
	}
	told := given{k, f}.holdRead(t, 3, 10, "", api.OK, k)
	told = told.holdWrite(t, 7, "x", 1, api.OK, with(k, func(k *api.Kern) {
		k.Tree.Nodes[fileIno].Data, k.Opens[3].Off = "\x00\x00x", 3
	}))
	told.holdWrite(t, 6, "y", 1, api.OK, with(told.k, func(k *api.Kern) {
		k.Tree.Nodes[fileIno].Data, k.Opens[4].Off = "y\x00x", 1
	}))
}
