package open_test

import (
	"math"
	"math/rand"
	"slices"
	"strings"
	"testing"

	"windlass/api"
	"windlass/open"
)

// calls is calls of all kinds on the sample, that do something, and that tell an error.
func calls() []call {
	all := []call{
		opening(6, rootIno, "f", api.HowRead), opening(3, rootIno, "f", api.HowWrite), opening(9, rootIno, "d/n", api.HowFresh), opening(0, rootIno, "n", api.HowAppend), opening(0, rootIno, "d", api.HowBoth), opening(-1, rootIno, "f", 0), opening(1, rootIno, "f", 9),
		closing(0), closing(3), closing(6), closing(8), closing(10), duping(3, 7), duping(3, 3), duping(4, 9), duping(9, 4), piping(6, 9, 5), piping(0, 4, 70000), piping(3, 4, 1), piping(2, 2, 1),
		func(k api.Kern, f api.Fds) (api.Kern, api.Fds, api.Errno) { return open.Fork(k, f), f, api.OK },
		func(k api.Kern, f api.Fds) (api.Kern, api.Fds, api.Errno) { return open.Exit(k, f), f, api.OK },
		func(k api.Kern, f api.Fds) (api.Kern, api.Fds, api.Errno) {
			k, g := open.New(k.Tree, "input")
			return k, g, api.OK
		},
	}
	for _, fd := range []int{-1, 0, 1, 3, 4, 5, 6, 8} {
		all = append(all,
			func(k api.Kern, f api.Fds) (api.Kern, api.Fds, api.Errno) {
				k, _, err := open.Read(k, f, fd, 2)
				return k, f, err
			},
			func(k api.Kern, f api.Fds) (api.Kern, api.Fds, api.Errno) {
				k, _, err := open.Write(k, f, fd, "text")
				return k, f, err
			})
	}
	return all
}

// scrawl writes over all that a kernel has, up to what its lists have room for.
func scrawl(k api.Kern) {
	nodes := k.Tree.Nodes[:cap(k.Tree.Nodes)]
	for i := range nodes {
		scrawlKids(nodes[i].Kids)
		nodes[i] = api.Inode{Kind: -7, Mode: -7, Links: -7, Data: "scrawled", Up: -7}
	}
	pipes := k.Pipes[:cap(k.Pipes)]
	for i := range pipes {
		pipes[i] = api.Pipe{Data: "scrawled", Readers: -7, Writers: -7, Cap: -7}
	}
	opens := k.Opens[:cap(k.Opens)]
	for i := range opens {
		opens[i] = api.Open{Kind: -7, At: -7, Off: -7, Flags: -7, Refs: -7}
	}
}

func scrawlKids(kids []api.Entry) {
	kids = kids[:cap(kids)]
	for i := range kids {
		kids[i] = api.Entry{Name: "scrawled", Ino: -7}
	}
}

// roomy is the sample, whose lists have room behind them, into which a call could write.
func roomy() (api.Kern, api.Fds) {
	k, f := sample()
	k.Tree.Nodes = slices.Grow(k.Tree.Nodes, 4)
	for i := range k.Tree.Nodes {
		k.Tree.Nodes[i].Kids = slices.Grow(k.Tree.Nodes[i].Kids, 4)
	}
	k.Pipes, k.Opens = slices.Grow(k.Pipes, 40), slices.Grow(k.Opens, 70)
	return k, f
}

// 0.5: what a call tells shares nothing with what it was given, nor with what was told at another time, beside an error neither.
func TestNothingShared(t *testing.T) {
	for i, c := range calls() {
		k, f := roomy()
		was := copied(k)
		made, _, _ := c(k, f)
		other, _, _ := c(k, f)
		want := copied(other)
		scrawl(made)
		holdSame(t, "what was given", k, was)
		holdSame(t, "what was told at another time", other, want)
		for _, p := range k.Pipes[len(k.Pipes):cap(k.Pipes)] {
			if p != (api.Pipe{}) {
				t.Errorf("call %d: behind the pipes that were given is %v", i, p)
			}
		}
		for _, d := range k.Opens[len(k.Opens):cap(k.Opens)] {
			if d != (api.Open{}) {
				t.Errorf("call %d: behind the descriptions that were given is %v", i, d)
			}
		}
		scrawl(k)
		holdSame(t, "what was told, as what was given is scrawled on", other, want)
	}
}

// 0.5: a kernel that was told stays what it is, whatever is done with it later; no two of its lists share anything.
func TestStays(t *testing.T) {
	k, f := sample()
	k, f, _ = open.Pipe(k, f, 6, 9, 5)
	k, _, _ = open.Write(k, f, 9, "text")
	_, text, _ := open.Read(k, f, 6, 9)
	_, more, _ := open.Read(k, f, 3, 9)
	was := copied(k)
	for _, c := range calls() {
		c(k, f)
		holdSame(t, "a kernel that was told", k, was)
	}
	for i := range k.Tree.Nodes {
		scrawlKids(k.Tree.Nodes[i].Kids)
		k.Tree.Nodes[i].Kids, was.Tree.Nodes[i].Kids = nil, nil
		holdSame(t, "a kernel one of whose lists is scrawled on", k, was)
	}
	scrawl(k)
	if text != "text" || more != "llo" {
		t.Errorf("what was read is %q and %q", text, more)
	}
}

// 0.3: beside an error what is read is empty, and none is written; a closed descriptor is 0.
func TestZero(t *testing.T) {
	k, f := sample()
	k, f, _ = open.Close(k, f, 8)
	if f[8] != 0 || k.Opens[8] != (api.Open{}) {
		t.Errorf("behind Close: %v, %v", f, k.Opens[8])
	}
	if _, text, err := open.Read(k, f, 8, 1); text != "" || err != api.ErrFd {
		t.Errorf("Read = %q, %v", text, err)
	}
	if _, n, err := open.Write(k, f, 8, "text"); n != 0 || err != api.ErrFd {
		t.Errorf("Write = %d, %v", n, err)
	}
}

// wild is a kernel, and descriptors, whose fields are what a seed says.
func wild(r *rand.Rand) (api.Kern, api.Fds) {
	number := func() int {
		if r.Intn(20) == 0 {
			return extremes()[r.Intn(len(extremes()))]
		}
		return r.Intn(9) - 1
	}
	k := api.Kern{Tree: sampleTree()}
	if r.Intn(3) == 0 {
		k.Tree = api.Tree{MaxNodes: number(), MaxBytes: number()}
		for range r.Intn(6) {
			n := api.Inode{Kind: number(), Mode: number(), Links: number(), Data: wildText(r), Up: number()}
			for range r.Intn(3) {
				n.Kids = append(n.Kids, api.Entry{Name: []string{"", "f", "d", ".", "n", "\x00"}[r.Intn(6)], Ino: number()})
			}
			k.Tree.Nodes = append(k.Tree.Nodes, n)
		}
	}
	for range r.Intn(4) {
		k.Pipes = append(k.Pipes, api.Pipe{Data: wildText(r), Readers: number(), Writers: number(), Cap: number()})
	}
	for range r.Intn(9) {
		k.Opens = append(k.Opens, api.Open{Kind: number(), At: number(), Off: number(), Flags: number(), Refs: number()})
	}
	for i := range k.Opens {
		if r.Intn(2) == 0 { // most numbers would lead to no description of anything
			k.Opens[i].Kind, k.Opens[i].Off, k.Opens[i].Flags = 1+r.Intn(4), 0, 1+r.Intn(3)
		}
	}
	k.Outs[r.Intn(2)] = strings.Repeat("o", []int{0, 3, 65536, 70000}[r.Intn(4)])
	var f api.Fds
	for i := range f {
		f[i] = number()
	}
	return k, f
}

// tooLong is more than any file, or any output, may have.
var tooLong = strings.Repeat("w", 65537)

// unfit makes each call on a kernel, fit or not.
func unfit(r *rand.Rand, k api.Kern, f api.Fds) {
	open.Fit(k, f)
	open.Same(k, k)
	open.Fork(k, f)
	open.Exit(k, f)
	open.New(k.Tree, wildText(r))
	for _, fd := range append(extremes(), 0, 1, 2, 3, 4, 5, 6, 7, 8, 9, 10) {
		to, how := wildFd(r), r.Intn(7)-1
		open.Open(k, f, fd, r.Intn(12)-1, wildPath(r), how)
		open.Close(k, f, fd)
		open.Dup(k, f, fd, to)
		open.Dup(k, f, to, fd)
		open.Pipe(k, f, fd, to, r.Intn(9)-1)
		open.Read(k, f, fd, r.Intn(70000)-1)
		open.Write(k, f, fd, wildText(r))
		open.Write(k, f, fd, tooLong)
	}
}

// 0.1, 0.5: no call panics, each ends, and none changes what it is given, at kernels and descriptors that are not fit.
func TestUnfit(t *testing.T) {
	fit, all := 0, 3000
	for seed := range int64(all) {
		r := rand.New(rand.NewSource(seed))
		k, f := wild(r)
		was := copied(k)
		unfit(r, k, f)
		if !same(k, was) {
			t.Fatalf("seed %d: a kernel that is not fit was changed: %s, and was %s", seed, told(k), told(was))
		}
		if open.Fit(k, f) {
			fit++
		}
	}
	if fit > all/10 {
		t.Errorf("%d of %d are fit", fit, all)
	}
}

// 0.1: by hand: descriptions that lead to nothing, whose Refs are fewer than their descriptors, of kinds that are none; more of all than may be.
func TestUnfitByHand(t *testing.T) {
	many, f := sample()
	for range 100 {
		many.Pipes = append(many.Pipes, api.Pipe{})
		many.Opens = append(many.Opens, api.Open{Kind: api.OpRead, At: 99, Refs: 1, Flags: 3})
	}
	kerns := []api.Kern{{}, {Opens: make([]api.Open, 10)}, many, {Opens: many.Opens}, {Tree: many.Tree, Opens: many.Opens}, {Pipes: many.Pipes, Opens: many.Opens}}
	for _, x := range []int{math.MinInt, -1, 0, 1, 2, 3, 5, 10, 65537, math.MaxInt} {
		for _, change := range []func(k *api.Kern, d *api.Open){
			func(_ *api.Kern, d *api.Open) { d.Kind = x },
			func(_ *api.Kern, d *api.Open) { d.At = x },
			func(_ *api.Kern, d *api.Open) { d.Off = x },
			func(_ *api.Kern, d *api.Open) { d.Flags = x },
			func(_ *api.Kern, d *api.Open) { d.Refs = x },
			func(k *api.Kern, _ *api.Open) { k.Pipes[0].Readers, k.Pipes[1].Writers, k.Pipes[3].Cap = x, x, x },
			func(k *api.Kern, _ *api.Open) { k.Tree.Nodes[fileIno].Kind = x },
			func(k *api.Kern, _ *api.Open) { k.Tree.MaxBytes, k.Tree.MaxNodes = x, x },
		} {
			for i := range 12 {
				k, _ := sample()
				change(&k, &k.Opens[i])
				kerns = append(kerns, k)
			}
		}
	}
	r := rand.New(rand.NewSource(1))
	for _, k := range kerns {
		was := copied(k)
		for _, f := range []api.Fds{f, {1, 1, 1, 1, 4, 4, 4, 4}, {4, 4, 4, 9, 9, 7, 7, 7, 7, 6}, {12, 13, 100, 112, 113, 1 << 40, -1 << 63}} {
			unfit(r, k, f)
		}
		if !same(k, was) {
			t.Fatalf("a kernel that is not fit was changed: %s, and was %s", told(k), told(was))
		}
	}
}

// 0.1: an input of more than a pipe may have.
func TestNewOfMuch(t *testing.T) {
	k, f := open.New(sampleTree(), strings.Repeat("x", 65537))
	if open.Fit(k, f) {
		t.Error("fit: an input of 65537 bytes")
	}
	open.Read(k, f, 0, 100000)
	open.New(api.Tree{}, "")
}
