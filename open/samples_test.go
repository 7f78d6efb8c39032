package open_test

import (
	"math"
	"slices"
	"strconv"
	"strings"
	"testing"

	"windlass/api"
	"windlass/open"
	"windlass/tree"
)

// The inodes of the sample.
const (
	rootIno = iota
	dirIno  // d
	fileIno // f, and d/../f by lf
	twoIno  // two, and d/too
	gIno    // d/g
	ldIno   // ld -> d
	lfIno   // lf -> d/../f
	deadIno // dead -> nothing
	firstFreeIno
	lastIno
	pastIno
)

const (
	fileText = "hello"
	twoText  = "\x00\xff\x80z\x00"
)

func entries(rest ...any) []api.Entry {
	var kids []api.Entry
	for i := 0; i < len(rest); i += 2 {
		kids = append(kids, api.Entry{Name: rest[i].(string), Ino: rest[i+1].(int)})
	}
	return kids
}

func sampleTree() api.Tree {
	return api.Tree{
		Nodes: []api.Inode{
			rootIno:      {Kind: api.InDir, Mode: 7, Kids: entries("d", dirIno, "dead", deadIno, "f", fileIno, "ld", ldIno, "lf", lfIno, "two", twoIno)},
			dirIno:       {Kind: api.InDir, Mode: 7, Links: 1, Kids: entries("g", gIno, "too", twoIno)},
			fileIno:      {Kind: api.InFile, Mode: 6, Links: 1, Data: fileText},
			twoIno:       {Kind: api.InFile, Mode: 6, Links: 2, Data: twoText},
			gIno:         {Kind: api.InFile, Mode: 7, Links: 1},
			ldIno:        {Kind: api.InLink, Mode: 7, Links: 1, Data: "d"},
			lfIno:        {Kind: api.InLink, Mode: 7, Links: 1, Data: "d/../f"},
			deadIno:      {Kind: api.InLink, Mode: 7, Links: 1, Data: "nothing"},
			firstFreeIno: {},
			lastIno:      {},
		},
		MaxNodes: 10, MaxBytes: 65536,
	}
}

// sample is a kernel, and the descriptors of one of the processes that have its descriptions: 3 and 7 share one, 6 and 9 are closed.
func sample() (api.Kern, api.Fds) {
	k := api.Kern{
		Tree: sampleTree(),
		Pipes: []api.Pipe{
			{Data: "in\x00\xff", Readers: 1, Writers: 0, Cap: 4},
			{Data: "pi\xfe\x00", Readers: 1, Writers: 2, Cap: 8},
			{Data: "old", Readers: 0, Writers: 0, Cap: 5}, // free
			{Data: "", Readers: 1, Writers: 0, Cap: 3},    // at its end
			{Data: "ab", Readers: 0, Writers: 1, Cap: 2},  // nobody reads
		},
		Opens: []api.Open{
			{Kind: api.OpRead, At: 0, Flags: api.FlRead, Refs: 1},
			{Kind: api.OpOut, At: 0, Flags: api.FlWrite, Refs: 2},
			{Kind: api.OpOut, At: 1, Flags: api.FlWrite, Refs: 1},
			{Kind: api.OpFile, At: fileIno, Off: 2, Flags: api.FlRead | api.FlWrite, Refs: 2},
			{},
			{Kind: api.OpRead, At: 1, Flags: api.FlRead, Refs: 1},
			{Kind: api.OpWrite, At: 1, Flags: api.FlWrite, Refs: 3},
			{Kind: api.OpWrite, At: 1, Flags: api.FlWrite, Refs: 1},
			{Kind: api.OpFile, At: twoIno, Off: 1, Flags: api.FlWrite | api.FlAppend, Refs: 1},
			{Kind: api.OpRead, At: 3, Flags: api.FlRead, Refs: 1},
			{},
			{Kind: api.OpWrite, At: 4, Flags: api.FlWrite, Refs: 1},
		},
		Outs: [2]string{"out\n", "err\x00\n"},
	}
	return k, api.Fds{1, 2, 3, 4, 6, 7, 0, 4, 9, 0}
}

// others is the descriptors of the other processes of the sample.
func others() []api.Fds {
	return []api.Fds{{0, 2, 0, 7, 8}, {10, 12, 7}}
}

// copied is a kernel that shares nothing with the one that it is like.
func copied(k api.Kern) api.Kern {
	k.Tree.Nodes = slices.Clone(k.Tree.Nodes)
	for i := range k.Tree.Nodes {
		k.Tree.Nodes[i].Kids = slices.Clone(k.Tree.Nodes[i].Kids)
	}
	k.Pipes, k.Opens = slices.Clone(k.Pipes), slices.Clone(k.Opens)
	return k
}

// with is a kernel of its own in which something is another.
func with(k api.Kern, change func(k *api.Kern)) api.Kern {
	k = copied(k)
	change(&k)
	return k
}

// set is descriptors of which one has another description, or is closed (0).
func set(f api.Fds, fd, at int) api.Fds {
	f[fd] = at
	return f
}

// same tells whether two kernels are the same, by what tree.Same says and the library's words for the rest.
func same(a, b api.Kern) bool {
	return tree.Same(a.Tree, b.Tree) && slices.Equal(a.Pipes, b.Pipes) && slices.Equal(a.Opens, b.Opens) && a.Outs == b.Outs
}

func holdFit(t *testing.T, what string, k api.Kern, f api.Fds) {
	t.Helper()
	if !open.Fit(k, f) {
		t.Fatalf("%s: not fit: %s, %v", what, told(k), f)
	}
}

// holdSame wants a kernel to be just so.
func holdSame(t *testing.T, what string, got, want api.Kern) {
	t.Helper()
	if !same(got, want) {
		t.Errorf("%s: the kernel is %s, not %s", what, told(got), told(want))
	}
}

// given is what a call that tells descriptors is made with: a kernel and descriptors; and what it told.
type given struct {
	k api.Kern
	f api.Fds
}

// call is a call of open on what it is given.
type call func(k api.Kern, f api.Fds) (api.Kern, api.Fds, api.Errno)

// hold wants a call to tell such a kernel and such descriptors, both fit, and to leave what it was given as it was.
func (g given) hold(t *testing.T, what string, c call, wantK api.Kern, wantF api.Fds) given {
	t.Helper()
	was := copied(g.k)
	k, f, err := c(g.k, g.f)
	if err != api.OK || f != wantF {
		t.Errorf("%s = %v, %v, not %v", what, f, err, wantF)
	}
	holdSame(t, what, k, wantK)
	holdSame(t, "what "+what+" was given", g.k, was)
	holdFit(t, what, k, f)
	return given{k, f}
}

// fails wants a call to tell such an error, and beside it just what it was given.
func (g given) fails(t *testing.T, what string, c call, want api.Errno) {
	t.Helper()
	was := copied(g.k)
	k, f, err := c(g.k, g.f)
	if err != want || f != g.f {
		t.Errorf("%s = %v, %v, not %v", what, f, err, want)
	}
	holdSame(t, what+" beside an error", k, was)
	holdSame(t, "what "+what+" was given", g.k, was)
}

func opening(fd, cwd int, p string, how int) call {
	return func(k api.Kern, f api.Fds) (api.Kern, api.Fds, api.Errno) { return open.Open(k, f, fd, cwd, p, how) }
}

func closing(fd int) call {
	return func(k api.Kern, f api.Fds) (api.Kern, api.Fds, api.Errno) { return open.Close(k, f, fd) }
}

func duping(from, to int) call {
	return func(k api.Kern, f api.Fds) (api.Kern, api.Fds, api.Errno) { return open.Dup(k, f, from, to) }
}

func piping(r, w, size int) call {
	return func(k api.Kern, f api.Fds) (api.Kern, api.Fds, api.Errno) { return open.Pipe(k, f, r, w, size) }
}

// holdRead wants Read to tell such bytes, and such a kernel.
func (g given) holdRead(t *testing.T, fd, n int, want string, err api.Errno, wantK api.Kern) given {
	t.Helper()
	was := copied(g.k)
	k, text, is := open.Read(g.k, g.f, fd, n)
	what := "Read(" + strconv.Itoa(fd) + ", " + strconv.Itoa(n) + ")"
	if text != want || is != err {
		t.Errorf("%s = %d bytes %.40q, %v, not %d bytes %.40q, %v", what, len(text), text, is, len(want), want, err)
	}
	holdSame(t, what, k, wantK)
	holdSame(t, "what "+what+" was given", g.k, was)
	holdFit(t, what, k, g.f)
	return given{k, g.f}
}

// holdWrite wants Write to tell so many bytes, and such a kernel.
func (g given) holdWrite(t *testing.T, fd int, s string, n int, err api.Errno, wantK api.Kern) given {
	t.Helper()
	was := copied(g.k)
	k, put, is := open.Write(g.k, g.f, fd, s)
	what := "Write(" + strconv.Itoa(fd) + ", " + strconv.Itoa(len(s)) + " bytes)"
	if put != n || is != err {
		t.Errorf("%s = %d, %v, not %d, %v", what, put, is, n, err)
	}
	holdSame(t, what, k, wantK)
	holdSame(t, "what "+what+" was given", g.k, was)
	holdFit(t, what, k, g.f)
	return given{k, g.f}
}

// crowded is a kernel with so many descriptions, those that are missing being of f, and none of them free but those named.
func crowded(k api.Kern, opens int, free ...int) api.Kern {
	k = copied(k)
	for i := range opens {
		if i == len(k.Opens) {
			k.Opens = append(k.Opens, api.Open{})
		}
		if k.Opens[i].Kind == api.OpNone && !slices.Contains(free, i) {
			k.Opens[i] = api.Open{Kind: api.OpFile, At: fileIno, Flags: api.FlRead, Refs: 1}
		}
	}
	return k
}

// extremes is numbers far from all that may be.
func extremes() []int {
	return []int{math.MinInt, math.MinInt + 1, math.MinInt32, -65536, -2, -1, 1 << 16, 65537, math.MaxInt32, math.MaxInt - 1, math.MaxInt}
}

// told is a kernel in words, for a report: of long texts just how long they are.
func told(k api.Kern) string {
	var b strings.Builder
	short := func(s string) string { return strconv.Itoa(len(s)) + " bytes " + strconv.Quote(s[:min(len(s), 16)]) }
	for i, n := range k.Tree.Nodes {
		if n.Kind != api.InFree {
			b.WriteString("inode " + strconv.Itoa(i) + " kind " + strconv.Itoa(n.Kind) + " mode " + strconv.Itoa(n.Mode) + " kids " + strconv.Itoa(len(n.Kids)) + " " + short(n.Data) + "; ")
		}
	}
	for i, p := range k.Pipes {
		b.WriteString("pipe " + strconv.Itoa(i) + " of " + strconv.Itoa(p.Cap) + " " + strconv.Itoa(p.Readers) + "/" + strconv.Itoa(p.Writers) + " " + short(p.Data) + "; ")
	}
	for i, d := range k.Opens {
		b.WriteString("open " + strconv.Itoa(i) + " kind " + strconv.Itoa(d.Kind) + " at " + strconv.Itoa(d.At) + " off " + strconv.Itoa(d.Off) + " flags " + strconv.Itoa(d.Flags) + " refs " + strconv.Itoa(d.Refs) + "; ")
	}
	return b.String() + "outs " + short(k.Outs[0]) + ", " + short(k.Outs[1])
}
