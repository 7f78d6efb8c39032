package tree_test

import (
	"strings"
	"testing"

	"windlass/api"
	"windlass/tree"
)

// change is one thing done to a sample, and whether it is fit behind that.
type change struct {
	what string
	do   func(t *api.Tree)
	fit  bool
}

// holdChanges does each change to a sample of its own.
func holdChanges(t *testing.T, changes []change) {
	t.Helper()
	if !tree.Fit(sample()) {
		t.Fatal("the sample is not fit")
	}
	for _, c := range changes {
		s := sample()
		c.do(&s)
		if got := tree.Fit(s); got != c.fit {
			t.Errorf("Fit = %v: %s", got, c.what)
		}
	}
}

// P3.1: Fit, by the limits of inodes and bytes. The sample has 9 inodes, and 8 bytes.
func TestFitLimits(t *testing.T) {
	holdChanges(t, []change{
		{"no inodes", func(t *api.Tree) { t.Nodes = nil }, false},
		{"no inodes, none allowed", func(t *api.Tree) { t.Nodes, t.MaxNodes = nil, 0 }, false},
		{"all zero", func(t *api.Tree) { *t = api.Tree{} }, false},
		{"one inode more than allowed", func(t *api.Tree) { t.MaxNodes = 8 }, false},
		{"as many inodes as allowed", func(t *api.Tree) { t.MaxNodes = 9 }, true},
		{"256 inodes allowed", func(t *api.Tree) { t.MaxNodes = 256 }, true},
		{"257 inodes allowed", func(t *api.Tree) { t.MaxNodes = 257 }, false},
		{"no inodes allowed", func(t *api.Tree) { t.MaxNodes = 0 }, false},
		{"fewer than no inodes allowed", func(t *api.Tree) { t.MaxNodes = -1 }, false},
		{"256 inodes", func(t *api.Tree) { t.Nodes, t.MaxNodes = append(t.Nodes, make([]api.Inode, 247)...), 256 }, true},
		{"257 inodes, 256 allowed", func(t *api.Tree) { t.Nodes, t.MaxNodes = append(t.Nodes, make([]api.Inode, 248)...), 256 }, false},
		{"257 inodes, 257 allowed", func(t *api.Tree) { t.Nodes, t.MaxNodes = append(t.Nodes, make([]api.Inode, 248)...), 257 }, false},
		{"one byte more than allowed", func(t *api.Tree) { t.MaxBytes = 7 }, false},
		{"as many bytes as allowed", func(t *api.Tree) { t.MaxBytes = 8 }, true},
		{"no bytes allowed", func(t *api.Tree) { t.MaxBytes = 0 }, false},
		{"fewer than no bytes allowed", func(t *api.Tree) { t.MaxBytes = -1 }, false},
		{"65536 bytes allowed", func(t *api.Tree) { t.MaxBytes = 65536 }, true},
		{"65537 bytes allowed", func(t *api.Tree) { t.MaxBytes = 65537 }, false},
		{"65536 bytes", func(t *api.Tree) { t.MaxBytes, t.Nodes[4].Data = 65536, strings.Repeat("x", 65528) }, true},
		{"65537 bytes, 65536 allowed", func(t *api.Tree) { t.MaxBytes, t.Nodes[4].Data = 65536, strings.Repeat("x", 65529) }, false},
		{"65537 bytes, 65537 allowed", func(t *api.Tree) { t.MaxBytes, t.Nodes[4].Data = 65537, strings.Repeat("x", 65529) }, false},
		{"a link's bytes are too many", func(t *api.Tree) { t.Nodes[6].Data = strings.Repeat("x", 16) }, false},
		{"a link's bytes just fit", func(t *api.Tree) { t.Nodes[6].Data = strings.Repeat("x", 15) }, true},
	})
}

// P3.1: Fit, of trees that have nothing but a root, and no bytes.
func TestFitRootAlone(t *testing.T) {
	one := api.Tree{Nodes: []api.Inode{dir(0, 0)}, MaxNodes: 1}
	if !tree.Fit(one) {
		t.Error("Fit = false: a root alone, no bytes")
	}
	one.MaxBytes = -1
	if tree.Fit(one) {
		t.Error("Fit = true: a root alone, fewer than no bytes")
	}
}

// P3.1: Fit, by what the root is.
func TestFitRoot(t *testing.T) {
	holdChanges(t, []change{
		{"the root is free", func(t *api.Tree) { t.Nodes[0] = api.Inode{} }, false},
		{"the root is a file", func(t *api.Tree) { t.Nodes[0].Kind = api.InFile }, false},
		{"the root is a link", func(t *api.Tree) { t.Nodes[0].Kind, t.Nodes[0].Data = api.InLink, "a" }, false},
		{"a free root alone", func(t *api.Tree) { t.Nodes = make([]api.Inode, 1) }, false},
		{"a file for a root alone", func(t *api.Tree) { t.Nodes = []api.Inode{file(0, "")} }, false},
		{"a link for a root alone", func(t *api.Tree) { t.Nodes = []api.Inode{link(0, "a")} }, false},
		{"the root's Up is a directory", func(t *api.Tree) { t.Nodes[0].Up = 1 }, false},
		{"the root's Up is below 0", func(t *api.Tree) { t.Nodes[0].Up = -1 }, false},
		{"the root's Up is not there", func(t *api.Tree) { t.Nodes[0].Up = 9 }, false},
		{"the root has a Link and no name", func(t *api.Tree) { t.Nodes[0].Links = 1 }, false},
		{"the root has fewer Links than none", func(t *api.Tree) { t.Nodes[0].Links = -1 }, false},
		{"the root has a name in itself", func(t *api.Tree) { t.Nodes[0].Kids = append(t.Nodes[0].Kids, names("r", 0)...) }, false},
		{"the root has a name in itself, and a Link", func(t *api.Tree) {
			t.Nodes[0].Kids, t.Nodes[0].Links = append(t.Nodes[0].Kids, names("r", 0)...), 1
		}, false},
		{"the root has a name deeper down", func(t *api.Tree) { t.Nodes[2].Kids = names("f", 3, "r", 0) }, false},
		{"the root has a name deeper down, and a Link", func(t *api.Tree) { t.Nodes[2].Kids, t.Nodes[0].Links = names("f", 3, "r", 0), 1 }, false},
		{"the root has a name deeper down, a Link, and its Up there", func(t *api.Tree) {
			t.Nodes[2].Kids, t.Nodes[0].Links, t.Nodes[0].Up = names("f", 3, "r", 0), 1, 2
		}, false},
	})
}

// P3.1: Fit, by the fields of a free inode, all of which are zero, and of inodes of no kind.
func TestFitFree(t *testing.T) {
	holdChanges(t, []change{
		{"a free one has a Mode", func(t *api.Tree) { t.Nodes[5].Mode = 1 }, false},
		{"a free one has a Link", func(t *api.Tree) { t.Nodes[5].Links = 1 }, false},
		{"a free one has Data", func(t *api.Tree) { t.Nodes[5].Data = "x" }, false},
		{"a free one has a Kid", func(t *api.Tree) { t.Nodes[5].Kids = names("x", 3); t.Nodes[3].Links++ }, false},
		{"a free one has an Up", func(t *api.Tree) { t.Nodes[5].Up = 1 }, false},
		{"the last free one has an Up below 0", func(t *api.Tree) { t.Nodes[8].Up = -1 }, false},
		{"a free one's Kids are an empty list", func(t *api.Tree) { t.Nodes[5].Kids = []api.Entry{} }, true},
		{"a free one has a name", func(t *api.Tree) { t.Nodes[7].Kids = names("x", 5) }, false},
		{"a free one has a name, and a Link", func(t *api.Tree) { t.Nodes[7].Kids, t.Nodes[5].Links = names("x", 5), 1 }, false},
		{"a file that has a name went free", func(t *api.Tree) { t.Nodes[4] = api.Inode{} }, false},
		{"a file has the kind above the last one", func(t *api.Tree) { t.Nodes[4].Kind = api.NumKinds }, false},
		{"a file has a kind below 0", func(t *api.Tree) { t.Nodes[4].Kind = -1 }, false},
		{"a free one has a kind below 0", func(t *api.Tree) { t.Nodes[5].Kind = -1 }, false},
	})
}

// P3.1: Fit, by the Mode of all that is not free.
func TestFitMode(t *testing.T) {
	for _, ino := range []int{0, 1, 2, 3, 4, 6, 7} {
		for mode := -8; mode <= 16; mode++ {
			s := sample()
			s.Nodes[ino].Mode = mode
			if got := tree.Fit(s); got != (0 <= mode && mode <= 7) {
				t.Errorf("Fit = %v: Mode %d at %d", got, mode, ino)
			}
		}
	}
}

// P3.1: Fit, by the fields of files and of links.
func TestFitFileLink(t *testing.T) {
	holdChanges(t, []change{
		{"a file has a Kid", func(t *api.Tree) { t.Nodes[4].Kids = names("x", 3); t.Nodes[3].Links++ }, false},
		{"a file's Kids are an empty list", func(t *api.Tree) { t.Nodes[4].Kids = []api.Entry{} }, true},
		{"a file's Up is the directory it is in", func(t *api.Tree) { t.Nodes[4].Up = 1 }, false},
		{"a file's Up is below 0", func(t *api.Tree) { t.Nodes[4].Up = -1 }, false},
		{"a file has bytes 0", func(t *api.Tree) { t.Nodes[4].Data = "\x00\x00" }, true},
		{"a link has a Kid", func(t *api.Tree) { t.Nodes[6].Kids = names("x", 3); t.Nodes[3].Links++ }, false},
		{"a link's Kids are an empty list", func(t *api.Tree) { t.Nodes[6].Kids = []api.Entry{} }, true},
		{"a link's Up is a directory", func(t *api.Tree) { t.Nodes[6].Up = 1 }, false},
		{"a link has no Data", func(t *api.Tree) { t.Nodes[6].Data = "" }, false},
		{"a link has 1 byte", func(t *api.Tree) { t.Nodes[6].Data = "/" }, true},
		{"a link has 1024 bytes", func(t *api.Tree) { t.MaxBytes, t.Nodes[6].Data = 65536, strings.Repeat("x", 1024) }, true},
		{"a link has 1025 bytes", func(t *api.Tree) { t.MaxBytes, t.Nodes[6].Data = 65536, strings.Repeat("x", 1025) }, false},
		{"a link has a byte 0", func(t *api.Tree) { t.Nodes[6].Data = "\x00" }, false},
		{"a link begins with a byte 0", func(t *api.Tree) { t.Nodes[6].Data = "\x00a" }, false},
		{"a link ends with a byte 0", func(t *api.Tree) { t.Nodes[6].Data = "a\x00" }, false},
		{"a link of other bytes", func(t *api.Tree) { t.Nodes[6].Data = "//\n\xff.." }, true},
		{"a link that leads to itself", func(t *api.Tree) { t.Nodes[6].Data = "l" }, true},
		{"a file that was a link", func(t *api.Tree) { t.Nodes[6].Kind = api.InFile }, true},
		{"a link that was a file", func(t *api.Tree) { t.Nodes[3].Kind = api.InLink }, true},
		{"a link that was an empty file", func(t *api.Tree) { t.Nodes[4].Kind = api.InLink }, false},
		{"an empty directory that became a file", func(t *api.Tree) { t.Nodes[7].Kind = api.InFile }, true},
		{"an empty directory deeper down that became a file", func(t *api.Tree) { t.Nodes[2] = file(1, ""); t.Nodes[3].Links = 1 }, true},
		{"a directory with Kids that became a file", func(t *api.Tree) { t.Nodes[1].Kind = api.InFile }, false},
	})
}

// P3.1: Fit, by a directory's Data and Kids.
func TestFitKids(t *testing.T) {
	kids := func(l ...any) func(t *api.Tree) {
		return func(t *api.Tree) {
			t.Nodes[7].Kids = names(l...)
			for i := 1; i < len(l); i += 2 {
				if ino := l[i].(int); 0 <= ino && ino < len(t.Nodes) && t.Nodes[ino].Kind != api.InFree {
					t.Nodes[ino].Links++
				}
			}
		}
	}
	holdChanges(t, []change{
		{"a directory has Data", func(t *api.Tree) { t.Nodes[7].Data = "x" }, false},
		{"the root has Data", func(t *api.Tree) { t.Nodes[0].Data = "x" }, false},
		{"a directory's Kids are an empty list", func(t *api.Tree) { t.Nodes[7].Kids = []api.Entry{} }, true},
		{"names that rise", kids("a", 3, "b", 4), true},
		{"names that fall", kids("b", 3, "a", 4), false},
		{"names that rise by bytes, .. among them", kids("-", 3, "..", 4, "A", 3, "B", 3, "_", 3, "a", 3, "a b", 3, "a-", 3, "aa", 3, "b", 3, "é", 3, "\xff", 3), false},
		{"names that rise by bytes, none of them ..", kids("-", 3, "...", 4, "A", 3, "B", 3, "_", 3, "a", 3, "a b", 3, "a-", 3, "aa", 3, "b", 3, "é", 3, "\xff", 3), true},
		{"names that rise without regard to capitals", kids("a", 3, "B", 4), false},
		{"names that rise as numbers", kids("9", 3, "10", 4), false},
		{"names that rise by length", kids("b", 3, "aa", 4), false},
		{"the last name falls", kids("a", 3, "c", 3, "b", 4), false},
		{"one name twice, of one inode", kids("a", 3, "a", 3), false},
		{"one name twice, of two inodes", kids("a", 3, "a", 4), false},
		{"two names of one file", kids("a", 3, "b", 3), true},
		{"two names of one link", kids("a", 6, "b", 6), true},
		{"an empty name", kids("", 3), false},
		{"a name .", kids(".", 3), false},
		{"a name ..", kids("..", 3), false},
		{"a name ...", kids("...", 3), true},
		{"a name with a slash", kids("a/b", 3), false},
		{"a name that is a slash", kids("/", 3), false},
		{"a name with a byte 0", kids("a\x00", 3), false},
		{"a name of 64 bytes", kids(strings.Repeat("n", 64), 3), true},
		{"a name of 65 bytes", kids(strings.Repeat("n", 65), 3), false},
		{"the second name can't stand", kids("a", 3, "b/", 3), false},
		{"a name of an inode below 0", kids("a", -1), false},
		{"a name of the last inode, that is free", kids("a", 8), false},
		{"a name of the inode above the last one", kids("a", 9), false},
		{"a name of an inode far above the last one", kids("a", 1<<40), false},
		{"the second name is of an inode that is not there", kids("a", 3, "b", 9), false},
		{"a name of a free inode", kids("a", 5), false},
		{"a name of a link", kids("a", 6), true},
	})
	for n, want := range map[int]bool{1: true, 1023: true, 1024: true, 1025: false, 5000: false} {
		if got := tree.Fit(wide(n)); got != want {
			t.Errorf("Fit = %v: %d names in a directory", got, n)
		}
	}
}

// P3.1: Fit, by where a directory is, and where its Up leads.
func TestFitUp(t *testing.T) {
	holdChanges(t, []change{
		{"a directory in two others", func(t *api.Tree) { t.Nodes[7].Kids, t.Nodes[2].Links = names("x", 2), 2 }, false},
		{"a directory in two others, with one Link", func(t *api.Tree) { t.Nodes[7].Kids = names("x", 2) }, false},
		{"a directory twice in one", func(t *api.Tree) { t.Nodes[1].Kids, t.Nodes[2].Links = names("e", 2, "e2", 2, "g", 4), 2 }, false},
		{"an empty directory twice in the root", func(t *api.Tree) {
			t.Nodes[0].Kids, t.Nodes[7].Links = append(t.Nodes[0].Kids, names("n", 7)...), 2
		}, false},
		{"a directory in none, with a Link", func(t *api.Tree) { t.Nodes[0].Kids = names("d", 1, "h", 3, "l", 6) }, false},
		{"a directory in none, without a Link", func(t *api.Tree) { t.Nodes[0].Kids, t.Nodes[7].Links = names("d", 1, "h", 3, "l", 6), 0 }, false},
		{"a directory in itself alone", func(t *api.Tree) {
			t.Nodes[0].Kids, t.Nodes[7].Kids, t.Nodes[7].Up = names("d", 1, "h", 3, "l", 6), names("m", 7), 7
		}, false},
		{"a directory in itself, too", func(t *api.Tree) { t.Nodes[7].Kids, t.Nodes[7].Links = names("m", 7), 2 }, false},
		{"two directories in each other", func(t *api.Tree) {
			t.Nodes[0].Kids = names("h", 3, "l", 6, "m", 7)
			t.Nodes[2].Kids, t.Nodes[1].Up = names("d", 1, "f", 3), 2
		}, false},
		{"an Up that is a file", func(t *api.Tree) { t.Nodes[2].Up = 3 }, false},
		{"an Up that is free", func(t *api.Tree) { t.Nodes[2].Up = 5 }, false},
		{"an Up that is another directory", func(t *api.Tree) { t.Nodes[2].Up = 7 }, false},
		{"an Up that is the root, of one that lies deeper down", func(t *api.Tree) { t.Nodes[2].Up = 0 }, false},
		{"an Up that is the directory itself", func(t *api.Tree) { t.Nodes[2].Up = 2 }, false},
		{"an Up below 0", func(t *api.Tree) { t.Nodes[2].Up = -1 }, false},
		{"an Up that is not there", func(t *api.Tree) { t.Nodes[2].Up = 9 }, false},
		{"a directory that moved, with its Up", func(t *api.Tree) {
			t.Nodes[1].Kids, t.Nodes[7].Kids, t.Nodes[2].Up = names("g", 4), names("e", 2), 7
		}, true},
		{"a directory that moved, without its Up", func(t *api.Tree) { t.Nodes[1].Kids, t.Nodes[7].Kids = names("g", 4), names("e", 2) }, false},
	})
}

// P3.1: Fit, by how many Links there are.
func TestFitLinks(t *testing.T) {
	for _, ino := range []int{0, 1, 2, 3, 4, 5, 6, 7, 8} {
		for _, more := range []int{-3, -2, -1, 1, 2} {
			s := sample()
			s.Nodes[ino].Links += more
			if tree.Fit(s) {
				t.Errorf("Fit = true: %d Links at %d", s.Nodes[ino].Links, ino)
			}
		}
	}
	holdChanges(t, []change{
		{"a file lost one of two names, and a Link", func(t *api.Tree) { t.Nodes[2].Kids, t.Nodes[3].Links = nil, 1 }, true},
		{"a file lost one of two names, and no Link", func(t *api.Tree) { t.Nodes[2].Kids = nil }, false},
		{"a file lost its name, and its Link", func(t *api.Tree) { t.Nodes[1].Kids, t.Nodes[4].Links = names("e", 2), 0 }, false},
		{"a file lost its name, and went free", func(t *api.Tree) { t.Nodes[1].Kids, t.Nodes[4] = names("e", 2), api.Inode{} }, true},
		{"a link lost its name, and its Link", func(t *api.Tree) { t.Nodes[0].Kids, t.Nodes[6].Links = names("d", 1, "h", 3, "m", 7), 0 }, false},
		{"a new file that has no name", func(t *api.Tree) { t.Nodes[5] = file(0, "") }, false},
		{"a new file that has no name, and a Link", func(t *api.Tree) { t.Nodes[5] = file(1, "") }, false},
		{"two files' Links are swapped", func(t *api.Tree) { t.Nodes[3].Links, t.Nodes[4].Links = 1, 2 }, false},
		{"a link has two names, and two Links", func(t *api.Tree) { t.Nodes[7].Kids, t.Nodes[6].Links = names("x", 6), 2 }, true},
	})
}

// P3.1: Fit, of trees that grew, of the widest and of the deepest one.
func TestFitGrown(t *testing.T) {
	for seed := range int64(200) {
		if g := grow(seed); !tree.Fit(g.tree) {
			t.Fatalf("Fit = false: seed %d", seed)
		}
	}
	if !tree.Fit(chain(256, func(int) string { return strings.Repeat("n", 64) })) {
		t.Error("Fit = false: 256 directories in one another")
	}
	if tree.Fit(chain(257, func(int) string { return "a" })) {
		t.Error("Fit = true: 257 directories in one another")
	}
}
