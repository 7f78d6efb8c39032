package glob_test

import (
	"math"
	"math/rand"
	"slices"
	"strconv"
	"strings"
	"sync"
	"testing"

	"windlass/api"
	"windlass/glob"
	"windlass/tree"
)

// P11.1, wrong inputs: patterns of any bytes, any of them quoted, against the chapter told another way.
func TestWildTexts(t *testing.T) {
	t.Parallel()
	for seed := range int64(3000) {
		r := rand.New(rand.NewSource(seed))
		s := grown(r, seed%3 == 0)
		p := pat{wildText(r, "ab*?[]!-:./\\\x00", 12), wildText(r, "01", 14)}
		cwd := r.Intn(len(s.Nodes))
		got, want := p.expand(s, cwd), p.told(s, cwd)
		if !slices.Equal(got, want) {
			t.Fatalf("seed %d: Expand of %v from %d = %s, not %s, in %v", seed, p, cwd, listed(got), listed(want), s)
		}
	}
}

// wildText is fewer bytes than so many of any kind, those of an alphabet often among them.
func wildText(r *rand.Rand, alphabet string, length int) string {
	row := make([]byte, r.Intn(length))
	for i := range row {
		row[i] = byte(r.Intn(256))
		if r.Intn(12) > 0 {
			row[i] = alphabet[r.Intn(len(alphabet))]
		}
	}
	return string(row)
}

// 0.5: what a call tells shares nothing with what it was given, nor with what another call tells, and a call changes nothing.
func TestNothingShared(t *testing.T) {
	s := linked(t)
	was := copied(s)
	for _, written := range []string{"*", "*/*", "d/*", "/*/", "*/f", "no*"} {
		want := slices.Clone(of(written).expand(s, 0))
		got := of(written).expand(s, 0)
		got = got[:cap(got)]
		for i := range got {
			got[i] = "scrawled"
		}
		hold(t, s, written, want...)
		if !tree.Same(s, was) {
			t.Fatalf("Expand of %s changed the tree", written)
		}
	}
}

// 0.5: what is told hangs on no call ahead, and on none at the same time.
func TestNothingKept(t *testing.T) {
	trees := []api.Tree{linked(t), small(t), build(t, "x", "d/", "d/x", "e/")}
	all := []string{"*", "*/", "*/*", "[d-z]/?", "d/*", "*/../*", `\**`, ".*", ""}
	var want [][]string
	for _, s := range trees {
		for _, written := range all {
			want = append(want, of(written).expand(s, 0))
		}
	}
	var group sync.WaitGroup
	for range 8 {
		group.Go(func() {
			for i := range want {
				at := len(want) - 1 - i
				s, written := trees[at/len(all)], all[at%len(all)]
				if got := of(written).expand(s, 0); !slices.Equal(got, want[at]) {
					t.Errorf("Expand of %s = %v, and was %v", written, got, want[at])
				}
			}
		})
	}
	group.Wait()
}

// bare is a tree of inodes with the widest limits.
func bare(nodes ...api.Inode) api.Tree { return api.Tree{Nodes: nodes, MaxNodes: 256, MaxBytes: 65536} }

func dir(up int, kids ...any) api.Inode {
	n := api.Inode{Kind: api.InDir, Mode: 7, Links: 1, Up: up}
	for i := 0; i < len(kids); i += 2 {
		n.Kids = append(n.Kids, api.Entry{Name: kids[i].(string), Ino: kids[i+1].(int)})
	}
	return n
}

func link(to string) api.Inode {
	return api.Inode{Kind: api.InLink, Mode: 7, Links: 1, Data: to}
}

// unfit is trees whose names and Ups lead in rings, to what is not there, or out of order, and whose names could not be.
func unfit(t *testing.T) []api.Tree {
	wide := bare(dir(0), dir(0))
	for i := range 5000 {
		wide.Nodes[0].Kids = append(wide.Nodes[0].Kids, api.Entry{Name: "a" + strconv.Itoa(i), Ino: 1})
	}
	low := linked(t)
	low.MaxNodes, low.MaxBytes = math.MinInt, math.MinInt
	return []api.Tree{
		{}, bare(), bare(make([]api.Inode, 3)...), {MaxNodes: 4, MaxBytes: 4}, low, wide,
		bare(dir(0, "a", 0, "b", 0)), bare(dir(5, "a", 1), dir(-7, "b", 1, "c", 0)), bare(dir(0, "a", -1, "b", 9, "c", math.MaxInt, "d", math.MinInt)),
		bare(dir(0, "", 1, "/", 1, "a/b", 1, "\x00", 1, ".", 1, "..", 1), dir(0, "", 0, "x", 0)), bare(dir(0, "b", 1, "a", 1, "b", 1, "a", 1), dir(0, "a", 1)),
		bare(link("/"), dir(0, "a", 0)), bare(api.Inode{Kind: api.InFile, Mode: 7, Kids: dir(0, "a", 1).Kids}, dir(0, "a", 0)),
		bare(dir(0, "a", 1, "b", 2, "c", 3), link(""), link("a/\x00"), link(strings.Repeat("a/", 50000))),
		bare(dir(0, "a", 1, "b", 2), api.Inode{Kind: 99, Mode: -1}, api.Inode{Kind: -5, Mode: math.MaxInt}), bare(dir(0, strings.Repeat("x", 1<<17), 1, "y", 1), dir(0, "z", 0)),
		bare(append(slices.Repeat([]api.Inode{dir(1, "a", 1)}, 300), dir(0, "a", 3))...),
	}
}

// wild is a tree whose fields are what a seed says.
func wild(r *rand.Rand) api.Tree {
	number := func() int { return r.Intn(10) - 1 }
	s := api.Tree{MaxNodes: 12 + number(), MaxBytes: 20 + number()}
	for range r.Intn(9) {
		n := api.Inode{Kind: []int{2, 2, 2, 1, 3, 0, 7}[r.Intn(7)], Mode: []int{7, 7, 5, number()}[r.Intn(4)], Links: number(), Data: strings.Repeat("a/", r.Intn(2)), Up: number()}
		for range r.Intn(4) {
			n.Kids = append(n.Kids, api.Entry{Name: []string{"", "a", "a", "b", "b", ".", "..", "/", "\x00"}[r.Intn(9)], Ino: number()})
		}
		s.Nodes = append(s.Nodes, n)
	}
	return s
}

// 0.1, 0.5: no call panics, each ends, and none changes what it is given, at trees that are not fit.
func TestUnfit(t *testing.T) {
	t.Parallel()
	all := unfit(t)
	for seed := range int64(500) {
		all = append(all, wild(rand.New(rand.NewSource(seed))))
	}
	for _, s := range all {
		was := copied(s)
		cwds := []int{-1, len(s.Nodes) - 1, len(s.Nodes), math.MinInt, math.MaxInt}
		for cwd := range min(len(s.Nodes), 6) {
			cwds = append(cwds, cwd)
		}
		for _, cwd := range cwds {
			for _, written := range []string{"*", "/*", "*/", "*/*", "*/*/*/", "/*/*/*/*", "*/../*", "../*", "a/*", "*/a", "[ab]/?/[ab]", "./*/.", "a/../*/b/", ".*", ".*/.*", "a/b/c/*", "*\x00", strings.Repeat("*/", 30)} {
				of(written).expand(s, cwd)
			}
		}
		if !tree.Same(s, was) {
			t.Fatalf("a tree that is not fit was changed: %v, and was %v", s, was)
		}
	}
}

// 0.1: arguments of more bytes than may be make no call panic, or go on for ever.
func TestTooLong(t *testing.T) {
	t.Parallel()
	s := linked(t)
	for _, text := range []string{"*", "*/", "/", "[", "[a]/", "./*/", "a", "d/../[d]/", "?", "toDir/*/", "*/../", "[/]", ".*"} {
		long := filled(text, 60000)
		for _, quoted := range []string{"", long, filled("01", 70000), filled("0", 100000), filled("1", 59999)} {
			glob.Expand(s, 0, long, quoted)
		}
		glob.Expand(s, 0, text, long)
		glob.Expand(s, -1, long, long)
	}
	hold(t, s, filled("*", 60000)+"/f"+filled("*", 60000), "d/f", "toDir/f", "toDirSlash/f", "toLink/f")
	hold(t, s, filled("/", 60000)+"[d]"+filled("/", 60000), "/d/")
}
