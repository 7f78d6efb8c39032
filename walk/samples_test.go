package walk_test

import (
	"math/rand"
	"slices"
	"strings"
	"testing"

	"windlass/api"
	"windlass/tree"
)

// built is a tree that is built path by path, and its inodes by their paths.
type built struct {
	api.Tree
	at map[string]int
}

// build is a tree of what the lines say, in their order, inodes from 1 on: "d/" is a directory, "l -> to" a link, "n = f" one more name of f, anything else a file, all told from the root on.
func build(t *testing.T, lines ...string) built {
	t.Helper()
	root := api.Inode{Kind: api.InDir, Mode: 7}
	b := built{api.Tree{Nodes: []api.Inode{root}, MaxNodes: 256, MaxBytes: 65536}, map[string]int{"": 0}}
	for _, line := range lines {
		if p, to, is := strings.Cut(line, " -> "); is {
			b.put(p, api.Inode{Kind: api.InLink, Mode: 7, Data: to})
		} else if p, old, is := strings.Cut(line, " = "); is {
			b.name(p, b.at[old])
		} else if p, is := strings.CutSuffix(line, "/"); is {
			b.put(p, api.Inode{Kind: api.InDir, Mode: 7})
		} else {
			b.put(line, api.Inode{Kind: api.InFile, Mode: 6, Data: line})
		}
	}
	b.holdFit(t)
	return b
}

// put makes an inode and its name.
func (b *built) put(p string, n api.Inode) {
	b.Nodes = append(b.Nodes, n)
	b.name(p, len(b.Nodes)-1)
}

// name gives an inode a name, where the order by bytes has it.
func (b *built) name(p string, ino int) {
	cut := strings.LastIndexByte(p, '/')
	up := b.at[p[:max(cut, 0)]]
	kids := append(b.Nodes[up].Kids, api.Entry{Name: p[cut+1:], Ino: ino})
	slices.SortFunc(kids, func(a, b api.Entry) int { return strings.Compare(a.Name, b.Name) })
	b.Nodes[up].Kids = kids
	if b.Nodes[ino].Kind == api.InDir {
		b.Nodes[ino].Up = up
	}
	b.Nodes[ino].Links++
	b.at[p] = ino
}

// mode is the tree with another Mode of what is at a path.
func (b built) mode(p string, mode int) built {
	b.Tree = copied(b.Tree)
	b.Nodes[b.ino(p)].Mode = mode
	return b
}

// ino is the inode at a path, "/" being the root; of a path that is not there none that any call could tell.
func (b built) ino(p string) int {
	if ino, there := b.at[strings.TrimPrefix(p, "/")]; there {
		return ino
	}
	return -99
}

func (b built) holdFit(t *testing.T) {
	t.Helper()
	if !tree.Fit(b.Tree) {
		t.Fatal("a sample is not fit")
	}
}

// copied is a tree that shares nothing with the one that it is like.
func copied(t api.Tree) api.Tree {
	t.Nodes = slices.Clone(t.Nodes)
	for i := range t.Nodes {
		t.Nodes[i].Kids = slices.Clone(t.Nodes[i].Kids)
	}
	return t
}

// sample has files and directories at three depths, and links to each, by paths with and without slashes at their ends, and to nothing.
func sample(t *testing.T) built {
	return build(t,
		"d/", "d/e/", "d/e/f", "d/g", "d/h = d/e/f", "m/", "x",
		"toFile -> d/e/f", "toFileSlash -> d/e/f/", "toDir -> d/e", "toDirSlash -> d/e/", "toRoot -> /", "toSlashes -> ///", "toDot -> .", "toUp -> ..",
		"toNothing -> nothing", "toNothingThere -> nothing/there", "toBelowFile -> x/y", "toItself -> toItself", "toItselfSlash -> toItselfSlash/", "toItselfBelow -> toItselfBelow/x",
		"toLinkFile -> toFile", "toLinkDir -> toDir", "toLinkNothing -> toNothing", "toOther -> toBack", "toBack -> toOther",
		"m/up -> ..", "m/abs -> /d/e", "m/rel -> ../d/g", "m/e2 -> e3", "m/e3 -> ../d/./e/../e/", "m/through -> abs/f", "m/dir -> abs/..",
		"m/two -> up", "n = m/up",
	)
}

// grown is a fit tree that grew by a seed: directories, files and links of few short names, so that many paths of these lead somewhere; links lead where other paths lead, Modes are what they are.
func grown(seed int64) api.Tree {
	r := rand.New(rand.NewSource(seed))
	b := built{api.Tree{Nodes: []api.Inode{{Kind: api.InDir, Mode: 7}}, MaxNodes: 256, MaxBytes: 65536}, map[string]int{"": 0}}
	dirs, others := []string{""}, []string{}
	for range 5 + r.Intn(35) {
		p := strings.TrimPrefix(dirs[r.Intn(len(dirs))]+"/"+wildName(r), "/")
		if _, there := b.at[p]; there {
			continue
		}
		mode := 7
		if r.Intn(8) == 0 {
			mode = r.Intn(8)
		}
		switch what := r.Intn(10); {
		case what < 4:
			b.put(p, api.Inode{Kind: api.InDir, Mode: mode})
			dirs = append(dirs, p)
		case what < 8:
			b.put(p, api.Inode{Kind: api.InLink, Mode: mode, Data: wildPath(r, 3)})
			others = append(others, p)
		case what < 9 || len(others) == 0:
			b.put(p, api.Inode{Kind: api.InFile, Mode: mode, Data: "x"})
			others = append(others, p)
		default:
			b.name(p, b.at[others[r.Intn(len(others))]])
		}
	}
	return b.Tree
}

func wildName(r *rand.Rand) string { return []string{"a", "b", "c", "-", "..."}[r.Intn(5)] }

// wildPath is a path of at most n names, which may be . and .., with or without slashes at both ends; it is never empty.
func wildPath(r *rand.Rand, n int) string {
	p := []string{"", "", "", "/", "//"}[r.Intn(5)]
	for range 1 + r.Intn(n) {
		name := wildName(r)
		switch r.Intn(7) {
		case 0:
			name = "."
		case 1:
			name = ".."
		}
		p += name + []string{"/", "/", "/", "//"}[r.Intn(4)]
	}
	if r.Intn(4) > 0 {
		p = strings.TrimRight(p, "/")
	}
	return p
}

// lead is a way as the chapter tells it, by texts: a link's text takes the place of its name, and goes on by what was behind that. It is what Walk and Parent are held against.
func lead(t api.Tree, at int, p string, follow bool, followed int) (int, api.Errno) {
	if strings.HasPrefix(p, "/") {
		at = 0
	}
	p = strings.Trim(p, "/")
	if p == "" {
		return at, api.OK
	}
	if t.Nodes[at].Kind != api.InDir {
		return 0, api.ErrNotDir
	}
	if t.Nodes[at].Mode%2 == 0 {
		return 0, api.ErrAccess
	}
	name, rest, _ := strings.Cut(p, "/")
	rest = strings.TrimLeft(rest, "/")
	if name == "." {
		return lead(t, at, rest, follow, followed)
	}
	if name == ".." {
		return lead(t, t.Nodes[at].Up, rest, follow, followed)
	}
	kid := slices.IndexFunc(t.Nodes[at].Kids, func(e api.Entry) bool { return e.Name == name })
	if kid < 0 {
		return 0, api.ErrNone
	}
	next := t.Nodes[at].Kids[kid].Ino
	if t.Nodes[next].Kind != api.InLink || rest == "" && !follow {
		return lead(t, next, rest, follow, followed)
	}
	if followed == 8 {
		return 0, api.ErrLoop
	}
	return lead(t, at, t.Nodes[next].Data+"/"+rest, follow, followed+1)
}

// stopped is what the chapter asks ahead of all ways.
func stopped(t api.Tree, cwd int, p string) api.Errno {
	if p == "" || cwd < 0 || cwd >= len(t.Nodes) || t.Nodes[cwd].Kind != api.InDir {
		return api.ErrNone
	}
	long := len(p) > 1024
	for _, name := range strings.Split(p, "/") {
		long = long || len(name) > 64
	}
	if long {
		return api.ErrName
	}
	return api.OK
}

// wantWalk is what Walk is to tell, by texts.
func wantWalk(t api.Tree, cwd int, p string, follow bool) (int, api.Errno) {
	if err := stopped(t, cwd, p); err != api.OK {
		return 0, err
	}
	slash := p[len(p)-1] == '/'
	ino, err := lead(t, cwd, p, follow || slash, 0)
	if err == api.OK && slash && t.Nodes[ino].Kind != api.InDir {
		return 0, api.ErrNotDir
	}
	return ino, err
}

// wantParent is what Parent is to tell, by texts.
func wantParent(t api.Tree, cwd int, p string) (int, string, api.Errno) {
	if err := stopped(t, cwd, p); err != api.OK {
		return 0, "", err
	}
	bare := strings.TrimRight(p, "/")
	if bare == "" {
		return 0, "", api.ErrThere
	}
	cut := strings.LastIndexByte(bare, '/') + 1
	dir, err := lead(t, cwd, bare[:cut], true, 0)
	if err != api.OK {
		return 0, "", err
	}
	if t.Nodes[dir].Kind != api.InDir {
		return 0, "", api.ErrNotDir
	}
	return dir, bare[cut:], api.OK
}
