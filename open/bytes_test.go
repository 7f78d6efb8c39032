package open_test

import (
	"math"
	"strconv"
	"strings"
	"testing"

	"windlass/api"
	"windlass/open"
	"windlass/tree"
)

// at is a kernel with one file, of which descriptor 3 has a description.
func at(data string, off, flags int) given {
	s := api.Tree{Nodes: []api.Inode{
		{Kind: api.InDir, Mode: 7, Kids: entries("f", 1)},
		{Kind: api.InFile, Links: 1, Data: data},
	}, MaxNodes: 2, MaxBytes: 65536}
	k, f := open.New(s, "")
	k.Opens = append(k.Opens, api.Open{Kind: api.OpFile, At: 1, Off: off, Flags: flags, Refs: 1})
	return given{k, set(f, 3, 4)}
}

// behind is the kernel with other bytes in its one file, and another Off.
func (g given) behind(data string, off int) api.Kern {
	return with(g.k, func(k *api.Kern) { k.Tree.Nodes[1].Data, k.Opens[3].Off = data, off })
}

// P9.5: of a file, at each Off within it, at its end and past it, an n of 1, of less than there is, of just what there is, and of more.
func TestReadFile(t *testing.T) {
	data := "ab\x00\xff\x80"
	for off := range 9 {
		for n := 1; n < 9; n++ {
			want := ""
			for i := off; i < off+n && i < len(data); i++ {
				want += data[i : i+1]
			}
			for _, flags := range []int{1, 3, 7} {
				g := at(data, off, flags)
				g.holdRead(t, 3, n, want, api.OK, g.behind(data, off+len(want)))
			}
		}
		g := at(data, off, 1)
		for _, n := range []int{65535, 65536, 65537, math.MaxInt32, math.MaxInt - 1, math.MaxInt} {
			g.holdRead(t, 3, n, data[min(off, 5):], api.OK, g.behind(data, max(off, 5)))
		}
	}
	full := strings.Repeat("x", 65535) + "y"
	for _, x := range []struct {
		data   string
		off, n int
		want   string
	}{
		{full, 65536, 1, ""}, {full, 65535, 1, "y"}, {full, 65535, 2, "y"}, {full, 65534, 1, "x"}, {full, 0, 65536, full}, {full, 0, 65537, full}, {full, 0, 65535, full[1:65535] + "x"},
		{"", 0, 1, ""}, {"", 65536, 1, ""}, {"a", 65536, 65536, ""},
	} {
		g := at(x.data, x.off, 3)
		g.holdRead(t, 3, x.n, x.want, api.OK, g.behind(x.data, x.off+len(x.want)))
	}
}

// P9.5: of a pipe: bytes that wait, none with and without writers; the description's Off stays.
func TestReadPipe(t *testing.T) {
	k, f := sample()
	g := given{k, f}
	for n, want := range map[int]string{1: "p", 2: "pi", 3: "pi\xfe", 4: "pi\xfe\x00", 5: "pi\xfe\x00", math.MaxInt: "pi\xfe\x00"} {
		g.holdRead(t, 4, n, want, api.OK, with(k, func(k *api.Kern) { k.Pipes[1].Data = k.Pipes[1].Data[len(want):] }))
	}
	g.holdRead(t, 0, 3, "in\x00", api.OK, with(k, func(k *api.Kern) { k.Pipes[0].Data = "\xff" }))
	empty := given{with(k, func(k *api.Kern) { k.Pipes[0].Data, k.Pipes[1].Data = "", "" }), f}
	empty.holdRead(t, 4, 1, "", api.ErrAgain, empty.k)
	empty.holdRead(t, 0, 1, "", api.OK, empty.k)
	other := given{k, others()[1]}
	other.holdRead(t, 0, 1, "", api.OK, k)
}

// P9.5: a closed descriptor, one that is none, one without FlRead: ErrFd, whatever n is; else an n below 1 is ErrInval.
func TestReadWrong(t *testing.T) {
	k, f := sample()
	g := given{k, f}
	for _, n := range append(extremes(), 0, 1, 2) {
		for _, fd := range append(extremes(), 10, 6, 9, 1, 2, 5, 8) {
			g.holdRead(t, fd, n, "", api.ErrFd, k)
		}
		given{k, others()[1]}.holdRead(t, 1, n, "", api.ErrFd, k)
		for _, flags := range []int{2, 6} {
			g := at("abc", 1, flags)
			g.holdRead(t, 3, n, "", api.ErrFd, g.k)
		}
		if n < 1 {
			for _, fd := range []int{0, 3, 4, 7} {
				g.holdRead(t, fd, n, "", api.ErrInval, k)
			}
			given{k, others()[1]}.holdRead(t, 0, n, "", api.ErrInval, k)
			empty := given{with(k, func(k *api.Kern) { k.Pipes[1].Data = "" }), f}
			empty.holdRead(t, 4, n, "", api.ErrInval, empty.k)
		}
	}
}

// P9.6: of a file, at each Off within it, at its end and past it; with FlAppend always at its end, wherever Off is.
func TestWriteFile(t *testing.T) {
	data := "ab\x00\xff\x80"
	for off := range 9 {
		for n := range 9 {
			s := "\x00BCD\xfeFGH"[:n]
			for _, flags := range []int{2, 3} {
				g := at(data, off, flags)
				want := data
				if n > 0 {
					want = (data + strings.Repeat("\x00", 9))[:max(off, len(data))]
					want = want[:off] + s + want[min(off+n, len(want)):]
				}
				g.holdWrite(t, 3, s, n, api.OK, g.behind(want, off+n))
			}
			for _, flags := range []int{6, 7} {
				g := at(data, off, flags)
				g.holdWrite(t, 3, s, n, api.OK, g.behind(data+s, 5+n))
			}
		}
	}
}

// P9.6: what there may be of bytes: an Off at 65536, a file that is full, a tree that is.
func TestWriteFull(t *testing.T) {
	full := strings.Repeat("x", 65536)
	for _, x := range []struct {
		data  string
		off   int
		flags int
		s     string
		want  string
		end   int
		err   api.Errno
	}{
		{"", 65536, 2, "", "", 65536, api.OK}, {"", 65536, 2, "a", "", 0, api.ErrBig}, {"", 65535, 2, "a", strings.Repeat("\x00", 65535) + "a", 65536, api.OK}, {"", 65535, 3, "ab", "", 0, api.ErrBig},
		{full, 65536, 3, "", full, 65536, api.OK}, {full, 65536, 3, "a", "", 0, api.ErrBig}, {full, 0, 2, full[1:] + "y", full[1:] + "y", 65536, api.OK}, {full, 0, 2, full + "y", "", 0, api.ErrBig},
		{full, 0, 6, "", full, 65536, api.OK}, {full, 0, 6, "a", "", 0, api.ErrBig}, {full[1:], 0, 6, "a", full[1:] + "a", 65536, api.OK}, {full[1:], 0, 7, "ab", "", 0, api.ErrBig},
		{"abc", 65536, 6, "d", "abcd", 4, api.OK}, {"abc", 65536, 6, "", "abc", 3, api.OK}, {"abc", 65536, 2, "d", "", 0, api.ErrBig},
		{"", 0, 6, full, full, 65536, api.OK}, {"", 0, 2, full, full, 65536, api.OK},
	} {
		g := at(x.data, x.off, x.flags)
		if x.err != api.OK {
			g.holdWrite(t, 3, x.s, 0, x.err, g.k)
			continue
		}
		g.holdWrite(t, 3, x.s, len(x.s), api.OK, g.behind(x.want, x.end))
	}
	g := at("abc", 1, 2)
	g.k.Tree.MaxBytes = 4
	g.holdWrite(t, 3, "BCD", 3, api.OK, g.behind("aBCD", 4))
	g.holdWrite(t, 3, "BCDE", 0, api.ErrSpace, g.k)
	g.holdWrite(t, 3, strings.Repeat("B", 65535), 0, api.ErrSpace, g.k)
	g.holdWrite(t, 3, strings.Repeat("B", 65536), 0, api.ErrBig, g.k)
}

// P9.6: of a pipe: as many bytes as find room; full; nobody reads.
func TestWritePipe(t *testing.T) {
	k, f := sample()
	g := given{k, f}
	for s, n := range map[string]int{"": 0, "a": 1, "a\x00\xff": 3, "abcd": 4, "abcde": 4, strings.Repeat("x", 70000): 4} {
		g.holdWrite(t, 5, s, n, api.OK, with(k, func(k *api.Kern) { k.Pipes[1].Data += s[:n] }))
	}
	full := given{with(k, func(k *api.Kern) { k.Pipes[1].Cap = 4 }), f}
	full.holdWrite(t, 5, "a", 0, api.ErrAgain, full.k)
	full.holdWrite(t, 5, "", 0, api.OK, full.k)
	other := given{k, others()[1]}
	other.holdWrite(t, 1, "a", 0, api.ErrPipe, k)
	other.holdWrite(t, 1, "", 0, api.ErrPipe, k)
}

// P9.6: of what is put out: behind Outs of that number; just full, and one byte above.
func TestWriteOut(t *testing.T) {
	k, f := sample()
	for _, s := range []string{"", "a", "\x00\xff\n", strings.Repeat("x", 60000)} {
		for i := range 2 {
			given{k, f}.holdWrite(t, 1+i, s, len(s), api.OK, with(k, func(k *api.Kern) { k.Outs[i] += s }))
		}
	}
	for i := range 2 {
		for _, has := range []int{0, 1, 100, 65535, 65536} {
			k := with(k, func(k *api.Kern) { k.Outs[i] = strings.Repeat("o", has) })
			left := strings.Repeat("p", 65536-has)
			g := given{k, f}
			full := g.holdWrite(t, 1+i, left, len(left), api.OK, with(k, func(k *api.Kern) { k.Outs[i] += left }))
			g.holdWrite(t, 1+i, left+"q", 0, api.ErrSpace, k)
			g.holdWrite(t, 1+i, strings.Repeat("p", 1<<17), 0, api.ErrSpace, k)
			full.holdWrite(t, 1+i, "q", 0, api.ErrSpace, full.k)
			full.holdWrite(t, 1+i, "", 0, api.OK, full.k)
			full.holdWrite(t, 2-i, "q", 1, api.OK, with(full.k, func(k *api.Kern) { k.Outs[1-i] += "q" })) // the other one has room
		}
	}
}

// P9.6: a closed descriptor, one that is none, one without FlWrite: ErrFd, whatever s is.
func TestWriteWrong(t *testing.T) {
	k, f := sample()
	for _, s := range []string{"", "a", strings.Repeat("x", 65537)} {
		for _, fd := range append(extremes(), 10, 6, 9, 0, 4) {
			given{k, f}.holdWrite(t, fd, s, 0, api.ErrFd, k)
		}
		given{k, others()[1]}.holdWrite(t, 0, s, 0, api.ErrFd, k)
		g := at("abc", 1, 1)
		g.holdWrite(t, 3, s, 0, api.ErrFd, g.k)
	}
}

// P9.5, P9.6: no Mode is asked any more, as it was as the file was opened.
func TestNoModes(t *testing.T) {
	for mode := range 8 {
		k, f := sample()
		k.Tree.Nodes[fileIno].Mode, k.Tree.Nodes[rootIno].Mode = mode, 7-mode
		given{k, f}.holdRead(t, 3, 9, "llo", api.OK, with(k, func(k *api.Kern) { k.Opens[3].Off = 5 }))
		given{k, f}.holdWrite(t, 7, "L", 1, api.OK, with(k, func(k *api.Kern) { k.Tree.Nodes[fileIno].Data, k.Opens[3].Off = "heLlo", 3 }))
	}
}

// P9.5, P9.6: each how lets its descriptor be read, and written, as it says.
func TestWaysOfOpening(t *testing.T) {
	for how := range 5 {
		k, f := sample()
		p := "f"
		if how == 4 {
			p = "n"
		}
		k, f, err := open.Open(k, f, 6, rootIno, p, how)
		_, text, read := open.Read(k, f, 6, 9)
		made, n, write := open.Write(k, f, 6, "W")
		reads, writes := how == 0 || how == 3, how != 0
		if err != api.OK || (read == api.OK) != reads || (write == api.OK) != writes || !reads && read != api.ErrFd || !writes && write != api.ErrFd {
			t.Errorf("%d: Open = %v, Read = %v, Write = %v", how, err, read, write)
		}
		if reads && text != fileText || writes && n != 1 {
			t.Errorf("%d: %q was read, %d bytes were written", how, text, n)
		}
		want := []string{fileText, "W", fileText + "W", "Wello", ""}[how]
		if made.Tree.Nodes[fileIno].Data != want && how != 4 || how == 4 && made.Tree.Nodes[firstFreeIno].Data != "W" {
			t.Errorf("%d: the file has %q", how, made.Tree.Nodes[fileIno].Data)
		}
	}
}

// P9.8: what was opened to be written, written in any pieces, and closed, is in the file; bytes that are read one behind the other are the file's, in order.
func TestThereAndBack(t *testing.T) {
	text := strings.Repeat("0123456789\n\x00\xff\x80é", 200)
	for _, piece := range []int{1, 2, 7, 63, 1000, 65536} {
		for _, how := range []int{1, 2, 3, 4} {
			k, f := open.New(sampleTree(), "")
			k, f, err := open.Open(k, f, 9, dirIno, "n", how)
			for left := text; left != "" && err == api.OK; {
				var n int
				k, n, err = open.Write(k, f, 9, left[:min(piece, len(left))])
				left = left[n:]
			}
			what := "by " + strconv.Itoa(piece) + ", " + strconv.Itoa(how)
			if err != api.OK {
				t.Fatalf("%s: %v", what, err)
			}
			k, f, _ = open.Close(k, f, 9)
			if ino := tree.Kid(k.Tree, dirIno, "n"); k.Tree.Nodes[ino].Data != text {
				t.Errorf("%s: the file has %d bytes", what, len(k.Tree.Nodes[ino].Data))
			}
			k, f, err = open.Open(k, f, 4, rootIno, "/d/n", 0)
			read, some := "", "-"
			for some != "" && err == api.OK {
				k, some, err = open.Read(k, f, 4, piece)
				read += some
			}
			if read != text || err != api.OK {
				t.Errorf("%s: %d bytes were read, %v", what, len(read), err)
			}
		}
	}
}

// P9.6: two descriptions of one file, each with an Off of its own; FlAppend writes behind what the other one wrote.
func TestTwoDescriptions(t *testing.T) {
	k, f := open.New(sampleTree(), "")
	write := func(fd int, s string) {
		t.Helper()
		var err api.Errno
		k, _, err = open.Write(k, f, fd, s)
		if err != api.OK {
			t.Fatalf("Write = %v", err)
		}
	}
	k, f, _ = open.Open(k, f, 3, rootIno, "d/g", api.HowWrite)
	k, f, _ = open.Open(k, f, 4, rootIno, "d/g", api.HowAppend)
	k, f, _ = open.Open(k, f, 5, rootIno, "d/g", api.HowRead)
	write(3, "aa")
	write(4, "bb")
	write(3, "c")
	write(4, "dd")
	write(3, "e")
	if data := k.Tree.Nodes[gIno].Data; data != "aacedd" {
		t.Errorf("the file has %q", data)
	}
	_, text, err := open.Read(k, f, 5, 100)
	if text != "aacedd" || err != api.OK {
		t.Errorf("Read = %q, %v", text, err)
	}
}
