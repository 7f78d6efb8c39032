package glob_test

import (
	"math/rand"
	"slices"
	"strconv"
	"strings"
	"testing"

	"windlass/api"
	"windlass/glob"
	"windlass/make"
	"windlass/path"
	"windlass/tree"
)

// build is a tree of what the lines say, in their order, inodes from 1 on, and free ones behind them: "d/" is a directory, "l -> to" a link, "n = f" one more name of f, anything else a file.
func build(t *testing.T, lines ...string) api.Tree {
	t.Helper()
	s, _ := tree.New(len(lines)+4, 65536)
	for _, line := range lines {
		err := api.OK
		if p, to, is := strings.Cut(line, " -> "); is {
			s, _, err = make.Symlink(s, 0, to, p)
		} else if p, old, is := strings.Cut(line, " = "); is {
			s, err = make.Link(s, 0, old, p)
		} else if p, is := strings.CutSuffix(line, "/"); is {
			s, _, err = make.Mkdir(s, 0, p, 7)
		} else {
			s, _, err = make.Create(s, 0, line, 6)
		}
		if err != api.OK {
			t.Fatalf("%s: %v", line, err)
		}
	}
	holdFit(t, s)
	return s
}

// at is the inode at a path of names alone, be the Modes what they are; of a path that is not there none that any call could tell.
func at(s api.Tree, p string) int {
	ino := 0
	for _, name := range path.Parts(p) {
		if ino = tree.Kid(s, ino, name); ino < 0 {
			return -99
		}
	}
	return ino
}

// mode is the tree with another Mode of what is at a path.
func mode(s api.Tree, p string, mode int) api.Tree {
	s = copied(s)
	s.Nodes[at(s, p)].Mode = mode
	return s
}

// crowded is the tree with so many names more in the directory at a path, all of what is at another one.
func crowded(s api.Tree, p, of string, names int) api.Tree {
	s = copied(s)
	dir, ino := at(s, p), at(s, of)
	kids := s.Nodes[dir].Kids
	for i := range names {
		kids = append(kids, api.Entry{Name: "k" + strconv.Itoa(10000+i), Ino: ino})
	}
	slices.SortFunc(kids, func(a, b api.Entry) int { return strings.Compare(a.Name, b.Name) })
	s.Nodes[dir].Kids = kids
	s.Nodes[ino].Links += names
	return s
}

// copied is a tree that shares nothing with the one that it is like.
func copied(s api.Tree) api.Tree {
	s.Nodes = slices.Clone(s.Nodes)
	for i := range s.Nodes {
		s.Nodes[i].Kids = slices.Clone(s.Nodes[i].Kids)
	}
	return s
}

func holdFit(t *testing.T, s api.Tree) {
	t.Helper()
	if !tree.Fit(s) {
		t.Fatalf("not fit: %v", s)
	}
}

// pat is a pattern's bytes, and which of them are quoted.
type pat struct{ text, quoted string }

// of is a pattern that is written with a \ ahead of each byte that is quoted.
func of(written string) pat {
	var text, quoted []byte
	for i := 0; i < len(written); i++ {
		mark := byte('0')
		if written[i] == '\\' {
			i, mark = i+1, '1'
		}
		text, quoted = append(text, written[i]), append(quoted, mark)
	}
	return pat{string(text), string(quoted)}
}

// plain is a pattern none of whose bytes is quoted.
func plain(text string) pat { return pat{text, ""} }

func (p pat) expand(s api.Tree, cwd int) []string { return glob.Expand(s, cwd, p.text, p.quoted) }

// String is a pattern in words.
func (p pat) String() string { return short(p.text) + " with " + short(p.quoted) + " quoted" }

// short is a text's beginning in words.
func short(s string) string {
	if len(s) <= 80 {
		return strconv.Quote(s)
	}
	return strconv.Quote(s[:80]) + ".. (" + strconv.Itoa(len(s)) + " bytes)"
}

// holdPat wants a pattern to have just such paths, in that order, from a directory on.
func holdPat(t *testing.T, s api.Tree, cwd int, p pat, want ...string) {
	t.Helper()
	if got := p.expand(s, cwd); !slices.Equal(got, want) {
		t.Errorf("Expand of %v from %d = %s, not %s", p, cwd, listed(got), listed(want))
	}
}

// hold is holdPat of a pattern as of reads it, from the root on.
func hold(t *testing.T, s api.Tree, written string, want ...string) {
	t.Helper()
	holdPat(t, s, 0, of(written), want...)
}

// holdFrom is hold from the directory at a path on.
func holdFrom(t *testing.T, s api.Tree, cwd, written string, want ...string) {
	t.Helper()
	holdPat(t, s, at(s, cwd), of(written), want...)
}

// listed is paths in words.
func listed(paths []string) string {
	more := ""
	if len(paths) > 20 {
		paths, more = paths[:20], " .. ("+strconv.Itoa(len(paths))+" in all)"
	}
	var row []string
	for _, p := range paths {
		row = append(row, short(p))
	}
	return "[" + strings.Join(row, " ") + "]" + more
}

// filled is a text again and again, up to so many bytes.
func filled(s string, length int) string {
	return strings.Repeat(s, length/len(s)+1)[:length]
}

// grown is a fit tree that grew by a seed: directories, files and links of few short names, so that many paths of these lead somewhere; some Modes are what they are, if they may.
func grown(r *rand.Rand, modes bool) api.Tree {
	s, _ := tree.New(6+r.Intn(34), 65536)
	for range 10 + r.Intn(60) {
		dirs := []string{""}
		for _, p := range tree.List(s) {
			if s.Nodes[at(s, p)].Kind == api.InDir {
				dirs = append(dirs, p)
			}
		}
		p := dirs[r.Intn(len(dirs))] + "/" + wildName(r)
		switch r.Intn(8) {
		case 0, 1, 2:
			s, _, _ = make.Mkdir(s, 0, p, 7)
		case 3, 4:
			s, _, _ = make.Symlink(s, 0, wildPath(r, 3), p)
		case 5:
			s, _, _ = make.Create(s, 0, p, 6)
		default:
			s, _ = make.Link(s, 0, dirs[r.Intn(len(dirs))]+"/"+wildName(r), p)
		}
	}
	// Behind all that was made, since a Mode might have stood in its way.
	for i, n := range s.Nodes {
		if modes && n.Kind != api.InFree && r.Intn(6) == 0 {
			s.Nodes[i].Mode = r.Intn(8)
		}
	}
	return s
}

func wildName(r *rand.Rand) string {
	return []string{"a", "b", "c", "ab", "a-", "a.", ".a", "..a", "...", "*", "[a", "b]", "\xff", "-"}[r.Intn(14)]
}

// wildPath is a path of at most n names, which may be . and .., with or without a slash ahead; it is never empty.
func wildPath(r *rand.Rand, n int) string {
	p := []string{"", "", "/"}[r.Intn(3)]
	for i := range 1 + r.Intn(n) {
		if i > 0 {
			p += "/"
		}
		switch r.Intn(8) {
		case 0:
			p += "."
		case 1:
			p += ".."
		default:
			p += wildName(r)
		}
	}
	return p
}
