package blob_test

import (
	"math"
	"math/rand"
	"slices"
	"strconv"
	"testing"

	"windlass/api"
	"windlass/tree"
)

// The inodes of the sample.
const (
	rootIno = iota
	dirIno
	emptyIno
	fileIno
	linkIno
	freeIno
	twoIno // it has two names
	lastIno
	pastIno // none has this number
)

// fileText and twoText are what the sample's files have; it has 14 bytes in all, 4 of them the link's.
const (
	fileText = "hello"
	twoText  = "\x00\xff\x80z\x00"
)

// entries is a directory's Kids, told by names and inodes in turn.
func entries(l ...any) []api.Entry {
	var kids []api.Entry
	for i := 0; i < len(l); i += 2 {
		kids = append(kids, api.Entry{Name: l[i].(string), Ino: l[i+1].(int)})
	}
	return kids
}

func file(links int, data string) api.Inode {
	return api.Inode{Kind: api.InFile, Mode: 6, Links: links, Data: data}
}

func link(data string) api.Inode {
	return api.Inode{Kind: api.InLink, Mode: 7, Links: 1, Data: data}
}

// sample is a fit tree that has inodes of all kinds.
func sample() api.Tree {
	s := api.Tree{Nodes: make([]api.Inode, pastIno), MaxNodes: 20, MaxBytes: 65536}
	s.Nodes[rootIno] = api.Inode{Kind: api.InDir, Mode: 7, Kids: entries("d", dirIno, "e", emptyIno, "l", linkIno, "one", fileIno, "two", twoIno)}
	s.Nodes[dirIno] = api.Inode{Kind: api.InDir, Mode: 5, Links: 1, Kids: entries("too", twoIno)}
	s.Nodes[emptyIno] = file(1, "")
	s.Nodes[fileIno] = file(1, fileText)
	s.Nodes[linkIno] = link("d/to")
	s.Nodes[twoIno] = file(2, twoText)
	return s
}

// TestSample: what the tests take the sample to be.
func TestSample(t *testing.T) {
	s := sample()
	holdFit(t, "the sample", s)
	if nodes, bytes := tree.Used(s); nodes != 6 || bytes != 14 {
		t.Errorf("the sample has %d inodes, %d bytes", nodes, bytes)
	}
}

// room is a tree with so many bytes that are left.
func room(s api.Tree, left int) api.Tree {
	s = copied(s)
	_, used := tree.Used(s)
	s.MaxBytes = used + left
	return s
}

// alone is a root, and a file 1 with such bytes, all bytes of the tree being its own.
func alone(data string) api.Tree {
	return api.Tree{
		Nodes:    []api.Inode{{Kind: api.InDir, Mode: 7, Kids: entries("f", 1)}, file(1, data)},
		MaxNodes: 2, MaxBytes: 65536,
	}
}

// copied is a tree that shares nothing with the one that it is like.
func copied(s api.Tree) api.Tree {
	s.Nodes = slices.Clone(s.Nodes)
	for i := range s.Nodes {
		s.Nodes[i].Kids = slices.Clone(s.Nodes[i].Kids)
	}
	return s
}

// with is a tree in which a file has such bytes, all else being what it is.
func with(s api.Tree, ino int, data string) api.Tree {
	s = copied(s)
	s.Nodes[ino].Data = data
	return s
}

func holdFit(t *testing.T, what string, s api.Tree) {
	t.Helper()
	if !tree.Fit(s) {
		t.Fatalf("%s: not fit: %.300s", what, told(s))
	}
}

// holdSame wants a tree to be just so.
func holdSame(t *testing.T, what string, got, want api.Tree) {
	t.Helper()
	if !tree.Same(got, want) {
		t.Errorf("%s: the tree is %.300s, not %.300s", what, told(got), told(want))
	}
}

// told is a tree's inodes, of bytes how many there are and the first ones.
func told(s api.Tree) string {
	text := strconv.Itoa(s.MaxNodes) + " inodes, " + strconv.Itoa(s.MaxBytes) + " bytes:"
	for i, n := range s.Nodes {
		text += " " + strconv.Itoa(i) + ": kind " + strconv.Itoa(n.Kind) + ", " + strconv.Itoa(len(n.Data)) + " bytes " + strconv.Quote(n.Data[:min(len(n.Data), 20)]) + ";"
	}
	return text
}

// extremes is numbers below 0, and above all that a file or an int can have.
func extremes() []int {
	return []int{-1, -2, -65536, math.MinInt32, math.MinInt + 1, math.MinInt, 65535, 65536, 65537, math.MaxInt32, math.MaxInt - 5, math.MaxInt - 1, math.MaxInt}
}

// wildText is bytes of any kind, most of them few.
func wildText(r *rand.Rand) string {
	length := []int{0, 1, r.Intn(6), r.Intn(40), r.Intn(40), 1000 + r.Intn(3000)}[r.Intn(6)]
	row := make([]byte, length)
	for i := range row {
		row[i] = []byte{0, 255, 128, '\n', 'a', byte(r.Intn(256))}[r.Intn(6)]
	}
	return string(row)
}

// grown is a fit tree by a seed: files of one name and of two, directories, links, free ones among them; how many bytes are left is what it is.
func grown(r *rand.Rand) api.Tree {
	s := api.Tree{Nodes: []api.Inode{{Kind: api.InDir, Mode: 7}}, MaxNodes: 256}
	for i := range 2 + r.Intn(12) {
		name, ino := "n"+strconv.Itoa(100+i), len(s.Nodes)
		n := api.Inode{Kind: []int{1, 1, 1, 2, 3, 0}[r.Intn(6)], Mode: r.Intn(8), Links: 1}
		switch n.Kind {
		case api.InFree:
			n = api.Inode{}
		case api.InFile:
			n.Data = wildText(r)
		case api.InLink:
			n.Data = name
		}
		if n.Kind != api.InFree {
			s.Nodes[rootIno].Kids = append(s.Nodes[rootIno].Kids, api.Entry{Name: name, Ino: ino})
		}
		if n.Kind == api.InFile && r.Intn(2) == 0 {
			n.Links = 2
			s.Nodes[rootIno].Kids = append(s.Nodes[rootIno].Kids, api.Entry{Name: name + "b", Ino: ino})
		}
		s.Nodes = append(s.Nodes, n)
	}
	_, used := tree.Used(s)
	s.MaxBytes = min(65536, used+[]int{0, r.Intn(10), r.Intn(300), 65536}[r.Intn(4)])
	return s
}

// TestGrown: trees that grow by seeds are fit.
func TestGrown(t *testing.T) {
	for seed := range int64(300) {
		holdFit(t, "a tree that grew", grown(rand.New(rand.NewSource(seed))))
	}
}
