package blob_test

import (
	"math"
	"strings"
	"testing"

	"windlass/api"
	"windlass/blob"
	"windlass/tree"
	"windlass/walk"
)

// holdRead wants Read to tell such bytes, or such an error.
func holdRead(t *testing.T, s api.Tree, ino, off, n int, want string, err api.Errno) {
	t.Helper()
	was := copied(s)
	got, told := blob.Read(s, ino, off, n)
	if got != want || told != err {
		t.Errorf("Read(%d, %d, %d) = %d bytes %.40q, %v, not %d bytes %.40q, %v", ino, off, n, len(got), got, told, len(want), want, err)
	}
	holdSame(t, "what Read was given", s, was)
}

// holdWrite wants Write to tell a tree in which the file has such bytes, and all else is what it was; beside an error just the tree as it was.
func holdWrite(t *testing.T, s api.Tree, ino, off int, text, want string, err api.Errno) {
	t.Helper()
	was := copied(s)
	made, told := blob.Write(s, ino, off, text)
	if told != err {
		t.Errorf("Write(%d, %d, %d bytes %.40q) = %v, not %v", ino, off, len(text), text, told, err)
	}
	holdMade(t, "Write", s, was, made, ino, want, err)
}

// holdCut wants Cut to tell a tree in which the file has such bytes, likewise.
func holdCut(t *testing.T, s api.Tree, ino, n int, want string, err api.Errno) {
	t.Helper()
	was := copied(s)
	made, told := blob.Cut(s, ino, n)
	if told != err {
		t.Errorf("Cut(%d, %d) = %v, not %v", ino, n, told, err)
	}
	holdMade(t, "Cut", s, was, made, ino, want, err)
}

// holdMade wants a tree that was made to be what it was but for a file's bytes, or, beside an error, just what it was.
func holdMade(t *testing.T, what string, s, was, made api.Tree, ino int, want string, err api.Errno) {
	t.Helper()
	holdSame(t, "what "+what+" was given", s, was)
	if err != api.OK {
		holdSame(t, what+" beside an error", made, was)
		return
	}
	holdFit(t, what, made)
	holdSame(t, what, made, with(was, ino, want))
}

func zeros(n int) string { return strings.Repeat("\x00", n) }

// P7.2, P7.3: the chapter's example.
func TestExample(t *testing.T) {
	s, err := blob.Write(alone(""), 1, 2, "ab")
	if s.Nodes[1].Data != "\x00\x00ab" || err != api.OK {
		t.Errorf("Write of ab at 2 = %q, %v", s.Nodes[1].Data, err)
	}
	s, err = blob.Cut(s, 1, 3)
	if s.Nodes[1].Data != "\x00\x00a" || err != api.OK {
		t.Errorf("Cut to 3 = %q, %v", s.Nodes[1].Data, err)
	}
	holdFit(t, "the example", s)
	holdRead(t, s, 1, 0, 9, "\x00\x00a", api.OK)
}

// P7.1 to P7.3: inodes that are not there, that are free, directories, links; whatever else is given, be it wrong, too.
func TestNoFile(t *testing.T) {
	wrong := map[int]api.Errno{
		-1: api.ErrNone, -2: api.ErrNone, math.MinInt: api.ErrNone, pastIno: api.ErrNone, pastIno + 1: api.ErrNone, 19: api.ErrNone, 20: api.ErrNone, 256: api.ErrNone, math.MaxInt: api.ErrNone,
		freeIno: api.ErrNone, lastIno: api.ErrNone, rootIno: api.ErrIsDir, dirIno: api.ErrIsDir, linkIno: api.ErrInval,
	}
	for _, s := range []api.Tree{sample(), room(sample(), 0)} {
		for ino, err := range wrong {
			for _, n := range append([]int{0, 1, 4, 5}, extremes()...) {
				holdRead(t, s, ino, n, 3, "", err)
				holdRead(t, s, ino, 0, n, "", err)
				holdRead(t, s, ino, n, n, "", err)
				holdCut(t, s, ino, n, "", err)
				for _, text := range []string{"", "a", strings.Repeat("a", 65537)} {
					holdWrite(t, s, ino, n, text, "", err)
				}
			}
		}
	}
}

// P7.1: each off by each n within a file, at its end, and past it.
func TestRead(t *testing.T) {
	for ino, data := range map[int]string{emptyIno: "", fileIno: fileText, twoIno: twoText} {
		for off := range 9 {
			for n := range 9 {
				want := ""
				for i := off; i < off+n && i < len(data); i++ {
					want += data[i : i+1]
				}
				holdRead(t, sample(), ino, off, n, want, api.OK)
			}
		}
	}
}

// P7.1: some of it, by hand.
func TestReadByHand(t *testing.T) {
	for _, x := range []struct {
		ino, off, n int
		want        string
	}{
		{fileIno, 0, 5, "hello"}, {fileIno, 0, 4, "hell"}, {fileIno, 1, 3, "ell"}, {fileIno, 4, 1, "o"}, {fileIno, 4, 2, "o"}, {fileIno, 5, 1, ""}, {fileIno, 6, 1, ""},
		{fileIno, 0, 0, ""}, {fileIno, 5, 0, ""}, {fileIno, 9, 0, ""}, {fileIno, 0, 6, "hello"}, {fileIno, 2, 100, "llo"},
		{twoIno, 0, 5, "\x00\xff\x80z\x00"}, {twoIno, 1, 2, "\xff\x80"}, {twoIno, 2, 1, "\x80"}, {twoIno, 4, 1, "\x00"}, {emptyIno, 0, 0, ""}, {emptyIno, 0, 1, ""}, {emptyIno, 1, 1, ""},
	} {
		holdRead(t, sample(), x.ino, x.off, x.n, x.want, api.OK)
	}
}

// P7.1: off and n below 0, and very large ones, which together may be more than an int holds.
func TestReadExtremes(t *testing.T) {
	s := sample()
	for _, x := range extremes() {
		if x < 0 {
			for _, y := range append([]int{0, 1, 5, 6}, extremes()...) {
				for _, ino := range []int{emptyIno, fileIno, twoIno} {
					holdRead(t, s, ino, x, y, "", api.ErrInval)
					holdRead(t, s, ino, y, x, "", api.ErrInval)
				}
			}
			continue
		}
		for off := range 8 {
			holdRead(t, s, fileIno, off, x, fileText[min(off, 5):], api.OK)
			holdRead(t, s, twoIno, off, x, twoText[min(off, 5):], api.OK)
			holdRead(t, s, fileIno, x, off, "", api.OK)
			holdRead(t, s, emptyIno, off, x, "", api.OK)
		}
		for _, y := range extremes() {
			if y >= 0 {
				holdRead(t, s, fileIno, x, y, "", api.OK)
			}
		}
	}
}

// P7.1: a file of all bytes that there may be.
func TestReadFullFile(t *testing.T) {
	data := strings.Repeat("0123456789abcdef", 4096)
	s := alone(data)
	holdFit(t, "a full tree", s)
	for _, x := range []struct {
		off, n int
		want   string
	}{
		{0, 65536, data}, {0, 65537, data}, {0, 65535, data[:65535]}, {1, 65536, data[1:]}, {65535, 1, "f"}, {65535, 2, "f"}, {65535, math.MaxInt, "f"},
		{65536, 1, ""}, {65536, 0, ""}, {65537, 1, ""}, {65520, 100, "0123456789abcdef"}, {16, 3, "012"}, {0, math.MaxInt, data},
	} {
		holdRead(t, s, 1, x.off, x.n, x.want, api.OK)
	}
}

// P7.2: some of it, by hand: an off of 0, within the file, at its end, and past it.
func TestWriteByHand(t *testing.T) {
	for _, x := range []struct {
		ino, off   int
		text, want string
	}{
		{emptyIno, 0, "a", "a"}, {emptyIno, 1, "a", "\x00a"}, {emptyIno, 3, "\xff\x00", "\x00\x00\x00\xff\x00"},
		{fileIno, 0, "J", "Jello"}, {fileIno, 0, "JEL", "JELlo"}, {fileIno, 0, "hallo", "hallo"}, {fileIno, 0, "hello!", "hello!"},
		{fileIno, 2, "LL", "heLLo"}, {fileIno, 2, "LLO", "heLLO"}, {fileIno, 2, "LLO!", "heLLO!"}, {fileIno, 4, "O", "hellO"}, {fileIno, 4, "OO", "hellOO"},
		{fileIno, 5, "!", "hello!"}, {fileIno, 5, "\x00", "hello\x00"}, {fileIno, 6, "!", "hello\x00!"}, {fileIno, 8, "\x80\xff", "hello\x00\x00\x00\x80\xff"},
		{fileIno, 1, "\x00", "h\x00llo"}, {fileIno, 1, "é", "h\xc3\xa9lo"}, {twoIno, 1, "x", "\x00x\x80z\x00"}, {twoIno, 6, "x", "\x00\xff\x80z\x00\x00x"},
	} {
		holdWrite(t, sample(), x.ino, x.off, x.text, x.want, api.OK)
	}
}

// P7.2: an empty s is OK at any off that is not below 0, be it above all that a file can have; nothing changes.
func TestWriteNothing(t *testing.T) {
	for _, s := range []api.Tree{sample(), room(sample(), 0)} {
		for ino, data := range map[int]string{emptyIno: "", fileIno: fileText, twoIno: twoText} {
			for _, off := range append([]int{0, 1, 4, 5, 6, 100}, extremes()...) {
				err := api.OK
				if off < 0 {
					err = api.ErrInval
				}
				holdWrite(t, s, ino, off, "", data, err)
			}
		}
	}
	full := strings.Repeat("x", 65536)
	holdWrite(t, alone(full), 1, 0, "", full, api.OK)
	holdWrite(t, alone(full), 1, 65536, "", full, api.OK)
	holdWrite(t, alone(full), 1, 65537, "", full, api.OK)
}

// P7.2: off below 0 is ErrInval, whatever is written, be off and its length within a file together or not.
func TestWriteBelow(t *testing.T) {
	for _, off := range extremes() {
		if off >= 0 {
			continue
		}
		for _, text := range []string{"", "a", "abc", strings.Repeat("a", 65536), strings.Repeat("a", 65537), strings.Repeat("a", 1<<18)} {
			for _, ino := range []int{emptyIno, fileIno, twoIno} {
				holdWrite(t, sample(), ino, off, text, "", api.ErrInval)
				holdWrite(t, room(sample(), 0), ino, off, text, "", api.ErrInval)
			}
		}
	}
}

// P7.2: off and the length of s at 65536 together, and above, as much as more than an int holds.
func TestWriteBig(t *testing.T) {
	full := strings.Repeat("x", 65536)
	for _, data := range []string{"", "hello", full[:65535], full} {
		s := alone(data)
		for _, n := range []int{1, 2, 5, 255, 256, 32768, 65534, 65535, 65536} {
			text, off := strings.Repeat("y", n), 65536-n
			want := data[:min(off, len(data))] + zeros(off-min(off, len(data))) + text
			holdWrite(t, s, 1, off, text, want, api.OK)
			holdWrite(t, s, 1, off+1, text, "", api.ErrBig)
			holdWrite(t, s, 1, off+2, text, "", api.ErrBig)
			holdWrite(t, s, 1, off, text+"z", "", api.ErrBig)
			for _, far := range []int{65536, 65537, math.MaxInt32, math.MaxInt - n - 1, math.MaxInt - n, math.MaxInt - n + 1, math.MaxInt} {
				holdWrite(t, s, 1, far, text, "", api.ErrBig)
			}
		}
		for _, n := range []int{65537, 65538, 1 << 17, 1 << 20} {
			holdWrite(t, s, 1, 0, strings.Repeat("y", n), "", api.ErrBig)
			holdWrite(t, s, 1, 1, strings.Repeat("y", n), "", api.ErrBig)
			holdWrite(t, s, 1, math.MaxInt, strings.Repeat("y", n), "", api.ErrBig)
		}
	}
	// ErrBig is told of a tree that has room for far less, too; a byte less is ErrSpace there.
	holdWrite(t, room(sample(), 0), fileIno, 65536, "a", "", api.ErrBig)
	holdWrite(t, room(sample(), 0), fileIno, 65535, "a", "", api.ErrSpace)
	holdWrite(t, sample(), fileIno, 65535, "a", "", api.ErrSpace)
}

// P7.2: all bytes of the tree at its MaxBytes, and one above; those that stand already need no room.
func TestWriteRoom(t *testing.T) {
	for left := range 6 {
		s := room(sample(), left)
		holdFit(t, "a tree with little room", s)
		for ino, data := range map[int]string{emptyIno: "", fileIno: fileText, twoIno: twoText} {
			for off := range 12 {
				for n := 1; n < 12; n++ {
					text := "ABCDEFGHIJKL"[:n]
					err, want := api.OK, written(data, off, text)
					if len(want)-len(data) > left {
						err = api.ErrSpace
					}
					holdWrite(t, s, ino, off, text, want, err)
				}
			}
		}
	}
}

// P7.2: the same where the other inodes' bytes leave a file less than 65536: a link's, and other files', are counted.
func TestWriteRoomOfMany(t *testing.T) {
	s := sample() // all but the file have 9 bytes
	holdWrite(t, s, fileIno, 65526, "a", fileText+zeros(65521)+"a", api.OK)
	holdWrite(t, s, fileIno, 65527, "a", "", api.ErrSpace)
	holdWrite(t, s, fileIno, 0, strings.Repeat("a", 65527), strings.Repeat("a", 65527), api.OK)
	holdWrite(t, s, fileIno, 0, strings.Repeat("a", 65528), "", api.ErrSpace)
	holdWrite(t, s, fileIno, 0, strings.Repeat("a", 65536), "", api.ErrSpace)
	holdWrite(t, s, fileIno, 0, strings.Repeat("a", 65537), "", api.ErrBig)
	none := alone("")
	none.MaxBytes = 0
	holdFit(t, "a tree without room", none)
	holdWrite(t, none, 1, 0, "a", "", api.ErrSpace)
	holdWrite(t, none, 1, 9, "", "", api.OK)
}

// P7.3: each n that is less than a file has, just what it has, and more.
func TestCut(t *testing.T) {
	for ino, data := range map[int]string{emptyIno: "", fileIno: fileText, twoIno: twoText} {
		for n := range 12 {
			holdCut(t, sample(), ino, n, cut(data, n), api.OK)
		}
	}
	for n, want := range []string{"", "h", "he", "hel", "hell", "hello", "hello\x00", "hello\x00\x00"} {
		holdCut(t, sample(), fileIno, n, want, api.OK)
	}
}

// P7.3: n below 0, at 65536, and above.
func TestCutBig(t *testing.T) {
	full := strings.Repeat("x", 65536)
	for _, data := range []string{"", "hello", full[:65535], full} {
		s := alone(data)
		for _, n := range []int{0, 1, 65534, 65535, 65536} {
			holdCut(t, s, 1, n, data[:min(n, len(data))]+zeros(max(n-len(data), 0)), api.OK)
		}
		for _, n := range extremes() {
			if n < 0 {
				holdCut(t, s, 1, n, "", api.ErrInval)
			}
			if n > 65536 {
				holdCut(t, s, 1, n, "", api.ErrBig)
			}
		}
	}
	holdCut(t, room(sample(), 0), fileIno, 65537, "", api.ErrBig)
	holdCut(t, room(sample(), 0), fileIno, 65536, "", api.ErrSpace)
	holdCut(t, room(sample(), 0), fileIno, -1, "", api.ErrInval)
}

// P7.3: all bytes of the tree at its MaxBytes, and one above.
func TestCutRoom(t *testing.T) {
	for left := range 6 {
		s := room(sample(), left)
		for ino, data := range map[int]string{emptyIno: "", fileIno: fileText, twoIno: twoText} {
			for n := range 16 {
				err := api.OK
				if n-len(data) > left {
					err = api.ErrSpace
				}
				holdCut(t, s, ino, n, cut(data, n), err)
			}
		}
	}
	holdCut(t, sample(), fileIno, 65527, fileText+zeros(65522), api.OK)
	holdCut(t, sample(), fileIno, 65528, "", api.ErrSpace)
	holdCut(t, sample(), emptyIno, 65522, zeros(65522), api.OK)
	holdCut(t, sample(), emptyIno, 65523, "", api.ErrSpace)
	// MaxBytes is asked of all bytes, be it far from what a file may have.
	s := alone("hello")
	s.MaxBytes = 100
	holdCut(t, s, 1, 100, "hello"+zeros(95), api.OK)
	holdCut(t, s, 1, 101, "", api.ErrSpace)
}

// P7.1 to P7.3: no Mode is asked, and all stay what they are; the directory's Mode neither.
func TestModes(t *testing.T) {
	for mode := range 8 {
		s := sample()
		s.Nodes[fileIno].Mode, s.Nodes[rootIno].Mode = mode, 7-mode
		holdRead(t, s, fileIno, 1, 2, "el", api.OK)
		holdWrite(t, s, fileIno, 1, "EL", "hELlo", api.OK)
		holdCut(t, s, fileIno, 2, "he", api.OK)
	}
}

// P7.4: what is written by the one name of a file is read by the other.
func TestTwoNames(t *testing.T) {
	s, _ := blob.Write(sample(), twoIno, 1, "new")
	for _, p := range []string{"two", "d/too"} {
		ino, err := walk.Walk(s, rootIno, p, false)
		if err != api.OK {
			t.Fatalf("Walk of %s = %v", p, err)
		}
		holdRead(t, s, ino, 0, 100, "\x00new\x00", api.OK)
	}
	if s.Nodes[twoIno].Links != 2 {
		t.Errorf("Links = %d", s.Nodes[twoIno].Links)
	}
}

// P7.2, P7.3: room that a Cut left is there for another file.
func TestRoomAgain(t *testing.T) {
	s := room(sample(), 0)
	holdWrite(t, s, emptyIno, 0, "abc", "", api.ErrSpace)
	s, err := blob.Cut(s, fileIno, 2)
	if err != api.OK {
		t.Fatalf("Cut = %v", err)
	}
	holdWrite(t, s, emptyIno, 0, "abc", "abc", api.OK)
	holdWrite(t, s, emptyIno, 0, "abcd", "", api.ErrSpace)
	s, _ = blob.Write(s, emptyIno, 0, "abc")
	holdCut(t, s, fileIno, 3, "", api.ErrSpace)
	if _, bytes := tree.Used(s); bytes != s.MaxBytes {
		t.Errorf("%d bytes are used, not %d", bytes, s.MaxBytes)
	}
}
