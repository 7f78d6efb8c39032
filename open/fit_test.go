package open_test

import (
	"math"
	"slices"
	"strconv"
	"strings"
	"testing"

	"windlass/api"
	"windlass/open"
)

// change is something that is done to a kernel and descriptors.
type change func(k *api.Kern, f *api.Fds)

// holdChanges wants the sample to be fit, or not, behind each of these.
func holdChanges(t *testing.T, want bool, changes map[string]change) {
	t.Helper()
	for what, change := range changes {
		k, f := sample()
		change(&k, &f)
		was := copied(k)
		if open.Fit(k, f) != want {
			t.Errorf("%s: Fit is %v of %s, %v", what, !want, told(k), f)
		}
		holdSame(t, "what Fit was given: "+what, k, was)
	}
}

func TestSample(t *testing.T) {
	k, f := sample()
	holdFit(t, "the sample", k, f)
	for _, f := range others() {
		holdFit(t, "the sample", k, f)
	}
	holdFit(t, "the sample", k, api.Fds{})
	holdFit(t, "no pipes and descriptions", api.Kern{Tree: sampleTree()}, api.Fds{})
}

// P9.1: each bound of a kernel's pipes and Outs, and the tree, just at it.
func TestFitBounds(t *testing.T) {
	holdChanges(t, true, map[string]change{
		"32 pipes":              func(k *api.Kern, _ *api.Fds) { k.Pipes = append(k.Pipes, slices.Repeat([]api.Pipe{{Cap: 1}}, 27)...) },
		"64 descriptions":       func(k *api.Kern, _ *api.Fds) { k.Opens = append(k.Opens, make([]api.Open, 52)...) },
		"64 of a file":          func(k *api.Kern, _ *api.Fds) { *k = crowded(*k, 64) },
		"Outs of 65536":         func(k *api.Kern, _ *api.Fds) { k.Outs[0] = strings.Repeat("o", 65536) },
		"diagnostics of 65536":  func(k *api.Kern, _ *api.Fds) { k.Outs[1] = strings.Repeat("o", 65536) },
		"no Outs":               func(k *api.Kern, _ *api.Fds) { k.Outs = [2]string{} },
		"a pipe that is full":   func(k *api.Kern, _ *api.Fds) { k.Pipes[1].Cap = 4 },
		"a pipe of 65536":       func(k *api.Kern, _ *api.Fds) { k.Pipes[1].Cap = 65536 },
		"an inode without Mode": func(k *api.Kern, _ *api.Fds) { k.Tree.Nodes[fileIno].Mode = 0 },
	})
	holdChanges(t, false, map[string]change{
		"33 pipes":                func(k *api.Kern, _ *api.Fds) { k.Pipes = append(k.Pipes, slices.Repeat([]api.Pipe{{Cap: 1}}, 28)...) },
		"65 descriptions":         func(k *api.Kern, _ *api.Fds) { k.Opens = append(k.Opens, make([]api.Open, 53)...) },
		"65 of a file":            func(k *api.Kern, _ *api.Fds) { *k = crowded(*k, 65) },
		"100 with a descriptor":   func(k *api.Kern, f *api.Fds) { *k = crowded(*k, 100); f[9] = 100 },
		"Outs of 65537":           func(k *api.Kern, _ *api.Fds) { k.Outs[0] = strings.Repeat("o", 65537) },
		"diagnostics of 65537":    func(k *api.Kern, _ *api.Fds) { k.Outs[1] = strings.Repeat("o", 65537) },
		"a pipe that is too full": func(k *api.Kern, _ *api.Fds) { k.Pipes[1].Cap = 3 },
		"a free pipe without Cap": func(k *api.Kern, _ *api.Fds) { k.Pipes[2] = api.Pipe{} },
		"a pipe of more":          func(k *api.Kern, _ *api.Fds) { k.Pipes[0].Cap = 65537 },
		"a pipe more, no Cap":     func(k *api.Kern, _ *api.Fds) { k.Pipes = append(k.Pipes, api.Pipe{}) },
		"no tree":                 func(k *api.Kern, _ *api.Fds) { k.Tree = api.Tree{} },
		"a Mode of 8":             func(k *api.Kern, _ *api.Fds) { k.Tree.Nodes[fileIno].Mode = 8 },
		"a file without names":    func(k *api.Kern, _ *api.Fds) { k.Tree.Nodes[gIno].Links = 0 },
		"more bytes than may be":  func(k *api.Kern, _ *api.Fds) { k.Tree.MaxBytes = 9 },
	})
	if open.Fit(api.Kern{}, api.Fds{}) {
		t.Error("fit without a tree")
	}
}

// P9.1: as many ends as the descriptions say, one more and one less; the pipe 0's Writers fewer and more.
func TestFitEnds(t *testing.T) {
	for _, i := range []int{0, 1, 2, 3, 4} {
		for _, more := range []int{-1000, -2, -1, 1, 2, 1000} {
			holdChanges(t, false, map[string]change{
				"Readers of " + strconv.Itoa(i) + " by " + strconv.Itoa(more): func(k *api.Kern, _ *api.Fds) { k.Pipes[i].Readers += more },
				"Writers of " + strconv.Itoa(i) + " by " + strconv.Itoa(more): func(k *api.Kern, _ *api.Fds) { k.Pipes[i].Writers += more },
				"ends of " + strconv.Itoa(i) + " by " + strconv.Itoa(more):    func(k *api.Kern, _ *api.Fds) { k.Pipes[i].Readers += more; k.Pipes[i].Writers += more },
				"ends of " + strconv.Itoa(i) + ", turned by one another":      func(k *api.Kern, _ *api.Fds) { k.Pipes[i].Readers += more; k.Pipes[i].Writers -= more },
			})
		}
	}
	writer := func(at int) change {
		return func(k *api.Kern, _ *api.Fds) {
			k.Opens[10] = api.Open{Kind: api.OpWrite, At: at, Flags: api.FlWrite, Refs: 1}
		}
	}
	reader := func(k *api.Kern, _ *api.Fds) {
		k.Opens[10] = api.Open{Kind: api.OpRead, At: 0, Flags: api.FlRead, Refs: 1}
	}
	holdChanges(t, true, map[string]change{"the pipe 0's Writers fewer": writer(0)})
	holdChanges(t, false, map[string]change{"another one's Writers fewer": writer(1), "Writers of one without fewer": writer(2), "the pipe 0's Readers fewer": reader})
	for writers := -1; writers < 6; writers++ {
		k, f := sample()
		k.Pipes[0].Writers = writers
		k.Opens = append(k.Opens, slices.Repeat([]api.Open{{Kind: api.OpWrite, At: 0, Flags: api.FlWrite, Refs: 2}}, 3)...)
		if want := 0 <= writers && writers <= 3; open.Fit(k, f) != want {
			t.Errorf("the pipe 0 with %d Writers and 3 descriptions of them: Fit is %v", writers, !want)
		}
	}
}

// P9.1: descriptors below 0, 0, of a description that is OpNone, of the last one, of one past it, as many as Refs and one more.
func TestFitFds(t *testing.T) {
	for fd := range 10 {
		for _, at := range append(extremes(), 5, 11, 13, 14, 64, 65) {
			k, f := sample()
			if open.Fit(k, set(f, fd, at)) {
				t.Errorf("fit: the descriptor %d is %d", fd, at)
			}
		}
		for _, at := range []int{0, 8, 10, 12} {
			k, f := sample()
			holdFit(t, "another descriptor", k, set(f, fd, at))
		}
	}
	for refs := 1; refs <= 10; refs++ {
		for used := range 11 {
			k, _ := sample()
			k.Opens[8].Refs = refs
			for _, from := range []int{0, 10 - used} {
				var f api.Fds
				for i := range used {
					f[from+i] = 9
				}
				if want := used <= refs; open.Fit(k, f) != want {
					t.Errorf("%d descriptors of a description of %d Refs: Fit is %v", used, refs, !want)
				}
			}
		}
	}
	// Each description is counted for itself.
	k, _ := sample()
	holdFit(t, "two each", k, api.Fds{4, 2, 4, 2})
	if open.Fit(k, api.Fds{4, 2, 4, 2, 4}) || open.Fit(k, api.Fds{4, 2, 4, 2, 2}) {
		t.Error("fit with three of two Refs")
	}
}

// P9.1: descriptions that are none are zero.
func TestFitNone(t *testing.T) {
	for _, x := range append(extremes(), 1, 2, 3) {
		holdChanges(t, false, map[string]change{
			"At":    func(k *api.Kern, _ *api.Fds) { k.Opens[4].At = x },
			"Off":   func(k *api.Kern, _ *api.Fds) { k.Opens[4].Off = x },
			"Flags": func(k *api.Kern, _ *api.Fds) { k.Opens[4].Flags = x },
			"Refs":  func(k *api.Kern, _ *api.Fds) { k.Opens[4].Refs = x },
			"all":   func(k *api.Kern, _ *api.Fds) { k.Opens[10] = api.Open{At: x, Off: x, Flags: x, Refs: x} },
		})
	}
}

// wantOpen is what the chapter says of a description in a kernel of the sample's tree and two pipes, as lists of what may be.
func wantOpen(d api.Open) bool {
	if d == (api.Open{}) {
		return true
	}
	ats := map[int][]int{1: {fileIno, twoIno, gIno}, 2: {0, 1}, 3: {0, 1}, 4: {0, 1}}
	offs := map[int][]int{1: {0, 1, 5, 65535, 65536}, 2: {0}, 3: {0}, 4: {0}}
	flags := map[int][]int{1: {1, 2, 3, 6, 7}, 2: {1}, 3: {2}, 4: {2}}
	return slices.Contains(ats[d.Kind], d.At) && slices.Contains(offs[d.Kind], d.Off) && slices.Contains(flags[d.Kind], d.Flags) && slices.Contains([]int{1, 2, 999, 1000}, d.Refs)
}

// P9.1: a description by each Kind, At, Off, Flags and Refs, in a kernel whose pipes have just the ends that it asks for.
func TestFitOpen(t *testing.T) {
	fit, all := 0, 0
	kinds := []int{-1, 0, 1, 2, 3, 4, 5, math.MinInt, math.MaxInt}
	ats := []int{-1, 0, 1, 2, 3, 4, 5, 6, 7, 8, 9, 10, math.MinInt, math.MaxInt}
	offs := []int{-1, 0, 1, 5, 65535, 65536, 65537, math.MinInt, math.MaxInt}
	refs := []int{-1, 0, 1, 2, 999, 1000, 1001, math.MinInt, math.MaxInt}
	for _, kind := range kinds {
		for _, at := range ats {
			k := api.Kern{Tree: sampleTree(), Pipes: []api.Pipe{{Cap: 1}, {Cap: 2}}, Opens: make([]api.Open, 1)}
			if 0 <= at && at < 2 && kind == 2 {
				k.Pipes[at].Readers = 1
			}
			if 0 <= at && at < 2 && kind == 3 {
				k.Pipes[at].Writers = 1
			}
			for _, off := range offs {
				for _, ref := range refs {
					for _, flags := range []int{-1, 0, 1, 2, 3, 4, 5, 6, 7, 8, 9, 10, 14, 15, 64, math.MinInt, math.MinInt + 2, math.MaxInt} {
						d := api.Open{Kind: kind, At: at, Off: off, Flags: flags, Refs: ref}
						k.Opens[0] = d
						want := wantOpen(d)
						if open.Fit(k, api.Fds{}) != want {
							t.Fatalf("Fit is %v of %v", !want, d)
						}
						all++
						if want {
							fit++
						}
					}
				}
			}
		}
	}
	if want := 3*5*5*4 + 3*2*4 + 1; fit != want {
		t.Errorf("%d of %d are fit, not %d", fit, all, want)
	}
}

// P9.1: a description of a pipe where there are none, or as many as there may be; an end that is counted at another pipe.
func TestFitPipes(t *testing.T) {
	for pipes := range 33 {
		for at := range 34 {
			k := api.Kern{Tree: sampleTree(), Pipes: slices.Repeat([]api.Pipe{{Cap: 1}}, pipes)}
			k.Opens = []api.Open{{Kind: api.OpRead, At: at, Flags: 1, Refs: 1}}
			if at < pipes {
				k.Pipes[at].Readers = 1
			}
			if want := at < pipes; open.Fit(k, api.Fds{1}) != want {
				t.Errorf("of the pipe %d of %d: Fit is %v", at, pipes, !want)
			}
			if at < pipes && pipes > 1 {
				k.Pipes[at].Readers, k.Pipes[(at+1)%pipes].Readers = 0, 1
				if open.Fit(k, api.Fds{1}) {
					t.Errorf("fit with a reader that is counted at another pipe than %d", at)
				}
			}
		}
	}
}
