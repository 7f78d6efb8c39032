package blob_test

import (
	"math/rand"
	"strings"
	"testing"

	"windlass/api"
	"windlass/blob"
)

// written is what a file has behind a text was written into it, told byte by byte.
func written(data string, off int, text string) string {
	if text == "" {
		return data
	}
	var b strings.Builder
	for i := 0; i < len(data) || i < off+len(text); i++ {
		switch {
		case off <= i && i < off+len(text):
			b.WriteByte(text[i-off])
		case i < len(data):
			b.WriteByte(data[i])
		default:
			b.WriteByte(0)
		}
	}
	return b.String()
}

// cut is a file's bytes, as many as told, told byte by byte.
func cut(data string, n int) string {
	var b strings.Builder
	for i := range n {
		if i < len(data) {
			b.WriteByte(data[i])
		} else {
			b.WriteByte(0)
		}
	}
	return b.String()
}

// wantFile is what the chapter says of an inode that is to be a file.
func wantFile(s api.Tree, ino int) api.Errno {
	if ino < 0 || len(s.Nodes) <= ino {
		return api.ErrNone
	}
	return []api.Errno{api.InFree: api.ErrNone, api.InFile: api.OK, api.InDir: api.ErrIsDir, api.InLink: api.ErrInval}[s.Nodes[ino].Kind]
}

// wantSize is what the chapter says of a file that is to be so long.
func wantSize(s api.Tree, ino, asked, size int) api.Errno {
	if asked > 65536 {
		return api.ErrBig
	}
	for i, n := range s.Nodes {
		if i != ino {
			size += len(n.Data)
		}
	}
	if size > s.MaxBytes {
		return api.ErrSpace
	}
	return api.OK
}

// call is a call by a seed: which one, and what it is given.
type call struct {
	what        string
	ino, off, n int
	text        string
}

// want is what the chapter says of a call: the file's bytes behind it, or what is read; or an error.
func (c call) want(s api.Tree) (string, api.Errno) {
	if err := wantFile(s, c.ino); err != api.OK {
		return "", err
	}
	data := s.Nodes[c.ino].Data
	switch c.what {
	case "Read":
		if c.off < 0 || c.n < 0 {
			return "", api.ErrInval
		}
		var b strings.Builder
		for i := range len(data) {
			if i >= c.off && i-c.off < c.n {
				b.WriteByte(data[i])
			}
		}
		return b.String(), api.OK
	case "Write":
		if c.off < 0 {
			return "", api.ErrInval
		}
		if c.text == "" {
			return data, api.OK
		}
		if c.off > 65536 {
			return "", api.ErrBig
		}
		err := wantSize(s, c.ino, c.off+len(c.text), max(c.off+len(c.text), len(data)))
		if err != api.OK {
			return "", err
		}
		return written(data, c.off, c.text), api.OK
	}
	if c.n < 0 {
		return "", api.ErrInval
	}
	if err := wantSize(s, c.ino, c.n, c.n); err != api.OK {
		return "", err
	}
	return cut(data, c.n), api.OK
}

// hold makes a call, wants of it what the chapter says, and tells the tree behind it, and the error.
func (c call) hold(t *testing.T, s api.Tree) (api.Tree, api.Errno) {
	t.Helper()
	want, err := c.want(s)
	switch c.what {
	case "Read":
		holdRead(t, s, c.ino, c.off, c.n, want, err)
		return s, err
	case "Write":
		holdWrite(t, s, c.ino, c.off, c.text, want, err)
		made, _ := blob.Write(s, c.ino, c.off, c.text)
		return made, err
	}
	holdCut(t, s, c.ino, c.n, want, err)
	made, _ := blob.Cut(s, c.ino, c.n)
	return made, err
}

// wildNumber is a place in a file, most often near its beginning or its end.
func wildNumber(r *rand.Rand, length int) int {
	switch r.Intn(12) {
	case 0:
		return extremes()[r.Intn(len(extremes()))]
	case 1:
		return -1 - r.Intn(3)
	case 2:
		return 65536 - r.Intn(20)
	case 3, 4, 5:
		return length - 2 + r.Intn(5)
	case 6:
		return r.Intn(length + 1)
	}
	return r.Intn(9)
}

func wildCall(r *rand.Rand, s api.Tree) call {
	ino := r.Intn(len(s.Nodes)+2) - 1
	length := 0
	if wantFile(s, ino) == api.OK {
		length = len(s.Nodes[ino].Data)
	}
	c := call{[]string{"Read", "Write", "Write", "Cut"}[r.Intn(4)], ino, wildNumber(r, length), wildNumber(r, length), wildText(r)}
	if r.Intn(12) == 0 {
		c.text = strings.Repeat("long", 1<<14) + c.text
	}
	return c
}

// P7.1 to P7.4: calls by seeds, one behind the other, in trees that grew by seeds, against the chapter told byte by byte.
func TestBySeeds(t *testing.T) {
	met := map[string]map[api.Errno]int{"Read": {}, "Write": {}, "Cut": {}}
	for seed := range int64(600) {
		r := rand.New(rand.NewSource(seed))
		s := grown(r)
		for range 40 {
			c := wildCall(r, s)
			made, err := c.hold(t, s)
			met[c.what][err]++
			if t.Failed() {
				t.Fatalf("seed %d: %s(%d, %d, %d, %d bytes)", seed, c.what, c.ino, c.off, c.n, len(c.text))
			}
			s = made
		}
	}
	for what, errs := range met {
		for _, err := range []api.Errno{api.OK, api.ErrNone, api.ErrIsDir, api.ErrInval, api.ErrBig, api.ErrSpace} {
			if must := what != "Read" || err != api.ErrBig && err != api.ErrSpace; must && errs[err] < 50 {
				t.Errorf("%s told %v just %d times", what, err, errs[err])
			}
		}
	}
}

// files is the inodes of a tree that are files.
func files(s api.Tree) []int {
	var all []int
	for ino, n := range s.Nodes {
		if n.Kind == api.InFile {
			all = append(all, ino)
		}
	}
	return all
}

// P7.4: what is written is read, ahead of it and behind it stands what stood there, in all other files what they had.
func TestWrittenIsRead(t *testing.T) {
	for seed := range int64(600) {
		r := rand.New(rand.NewSource(seed))
		s := grown(r)
		for _, ino := range files(s) {
			text, length := wildText(r), len(s.Nodes[ino].Data)
			off := r.Intn(length + 20)
			made, err := blob.Write(s, ino, off, text)
			if err != api.OK {
				continue
			}
			holdFit(t, "Write", made)
			holdRead(t, made, ino, off, len(text), text, api.OK)
			ahead, _ := blob.Read(s, ino, 0, off)
			end := off + len(text)
			behind, _ := blob.Read(s, ino, end, length)
			holdRead(t, made, ino, 0, min(off, length), ahead, api.OK)
			holdRead(t, made, ino, end, length, behind, api.OK)
			if text != "" && off > length {
				holdRead(t, made, ino, length, off-length, zeros(off-length), api.OK)
			}
			for _, other := range files(s) {
				if other != ino {
					holdRead(t, made, other, 0, 65536, s.Nodes[other].Data, api.OK)
				}
			}
		}
	}
}

// holdTwo wants two writes, one behind the other, to be one write of both, if both find room; and the one to be told to have none, if one of the two has none.
func holdTwo(t *testing.T, s api.Tree, ino, off int, one, two string) bool {
	t.Helper()
	both, err := blob.Write(s, ino, off, one+two)
	made, first := blob.Write(s, ino, off, one)
	if first != api.OK {
		if err != first {
			t.Fatalf("Write at %d of %d and %d bytes = %v, of the first ones = %v", off, len(one), len(two), err, first)
		}
		return false
	}
	made, second := blob.Write(made, ino, off+len(one), two)
	if second != err {
		t.Fatalf("Write at %d of %d and %d bytes = %v, of the second ones = %v", off, len(one), len(two), err, second)
	}
	if err == api.OK {
		holdSame(t, "two writes", made, both)
	}
	return err == api.OK
}

// P7.5: two writes, one behind the other: all short ones, at the edges of what a file may have, and by seeds.
func TestTwoWrites(t *testing.T) {
	found, all := 0, 0
	count := func(fits bool) {
		all++
		if fits {
			found++
		}
	}
	for _, left := range []int{0, 3, 100} {
		for off := range 8 {
			for one := range 5 {
				for two := range 5 {
					count(holdTwo(t, room(sample(), left), fileIno, off, "ABCDE"[:one], "vwxyz"[:two]))
					count(holdTwo(t, room(sample(), left), emptyIno, off, "ABCDE"[:one], "vwxyz"[:two]))
				}
			}
		}
	}
	for off := 65530; off < 65540; off++ {
		for one := range 4 {
			for two := range 4 {
				count(holdTwo(t, alone(""), 1, off, "ABC"[:one], "xyz"[:two]))
			}
		}
	}
	for seed := range int64(600) {
		r := rand.New(rand.NewSource(seed))
		s := grown(r)
		for _, ino := range files(s) {
			count(holdTwo(t, s, ino, r.Intn(len(s.Nodes[ino].Data)+20), wildText(r), wildText(r)))
		}
	}
	if found < 500 || all-found < 500 {
		t.Errorf("%d of %d found room", found, all)
	}
}
