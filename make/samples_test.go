package make_test

import (
	"maps"
	"math/rand"
	"slices"
	"strconv"
	"strings"
	"testing"

	"windlass/api"
	"windlass/tree"
)

// built is a tree that is built path by path, and its inodes by their paths.
type built struct {
	api.Tree
	at map[string]int
}

// empty is n inodes, all free but the root.
func empty(n int) built {
	nodes := append([]api.Inode{{Kind: api.InDir, Mode: 7}}, slices.Repeat([]api.Inode{{}}, n-1)...)
	return built{api.Tree{Nodes: nodes, MaxNodes: n, MaxBytes: 65536}, map[string]int{"": 0}}
}

// build is a tree of what the lines say, in their order, inodes from 1 on, and three free ones behind them: "d/" is a directory, "l -> to" a link, "n = f" one more name of f, anything else a file, all told from the root on.
func build(t *testing.T, lines ...string) built {
	t.Helper()
	b := empty(len(lines) + 4)
	for _, line := range lines {
		if p, to, is := strings.Cut(line, " -> "); is {
			b = b.with(p, api.Inode{Kind: api.InLink, Mode: 7, Data: to})
		} else if p, old, is := strings.Cut(line, " = "); is {
			b = b.named(p, b.at[old])
		} else if p, is := strings.CutSuffix(line, "/"); is {
			b = b.with(p, api.Inode{Kind: api.InDir, Mode: 7})
		} else {
			b = b.with(line, api.Inode{Kind: api.InFile, Mode: 6, Data: line})
		}
	}
	b.holdFit(t)
	return b
}

// with is the tree with one more inode, at the first place that is free, and its name.
func (b built) with(p string, n api.Inode) built {
	for ino := range b.Nodes {
		if b.Nodes[ino].Kind == api.InFree {
			return b.put(ino, n).named(p, ino)
		}
	}
	panic("no inode for " + p)
}

// put is the tree with an inode that has no name.
func (b built) put(ino int, n api.Inode) built {
	b.Tree = copied(b.Tree)
	b.Nodes[ino] = n
	return b
}

// named is the tree with one more name of an inode, where the order by bytes has it.
func (b built) named(p string, ino int) built {
	b = built{copied(b.Tree), maps.Clone(b.at)}
	cut := strings.LastIndexByte(p, '/')
	up := b.at[p[:max(cut, 0)]]
	kids := append(b.Nodes[up].Kids, api.Entry{Name: p[cut+1:], Ino: ino})
	slices.SortFunc(kids, func(a, b api.Entry) int { return strings.Compare(a.Name, b.Name) })
	b.Nodes[up].Kids = kids
	if b.Nodes[ino].Kind == api.InDir {
		b.Nodes[ino].Up = up
	}
	b.Nodes[ino].Links++
	b.at[p] = ino
	return b
}

// mode is the tree with another Mode of what is at a path.
func (b built) mode(p string, mode int) built {
	b.Tree = copied(b.Tree)
	b.Nodes[b.ino(p)].Mode = mode
	return b
}

// full is the tree without its free inodes.
func (b built) full() built {
	b.Nodes = slices.DeleteFunc(slices.Clone(b.Nodes), func(n api.Inode) bool { return n.Kind == api.InFree })
	return b
}

// room is the tree with so many bytes that are left.
func (b built) room(bytes int) built {
	_, used := tree.Used(b.Tree)
	b.MaxBytes = used + bytes
	return b
}

// crowded is the tree with so many names in the directory at a path, those that are missing being of the file x in the root.
func (b built) crowded(p string, names int) built {
	b.Tree = copied(b.Tree)
	dir, x := b.ino(p), b.ino("x")
	for i := len(b.Nodes[dir].Kids); i < names; i++ {
		b.Nodes[dir].Kids = append(b.Nodes[dir].Kids, api.Entry{Name: "k" + strconv.Itoa(10000+i), Ino: x})
		b.Nodes[x].Links++
	}
	slices.SortFunc(b.Nodes[dir].Kids, func(a, b api.Entry) int { return strings.Compare(a.Name, b.Name) })
	return b
}

// ino is the inode at a path, "/" being the root; of a path that is not there none that any call could tell.
func (b built) ino(p string) int {
	if ino, there := b.at[strings.TrimPrefix(p, "/")]; there {
		return ino
	}
	return -99
}

func (b built) holdFit(t *testing.T) {
	t.Helper()
	if !tree.Fit(b.Tree) {
		t.Fatal("a sample is not fit")
	}
}

// copied is a tree that shares nothing with the one that it is like.
func copied(t api.Tree) api.Tree {
	t.Nodes = slices.Clone(t.Nodes)
	for i := range t.Nodes {
		t.Nodes[i].Kids = slices.Clone(t.Nodes[i].Kids)
	}
	return t
}

// sample has files and directories at three depths, and links to each, and to nothing.
func sample(t *testing.T) built {
	return build(t,
		"d/", "d/e/", "d/e/f", "d/g", "d/h = d/e/f", "m/", "x",
		"toFile -> d/e/f", "toDir -> d/e", "toDirSlash -> d/e/", "toRoot -> /", "toNothing -> nothing", "toNew -> d/new", "toItself -> toItself",
		"m/up -> ..", "m/rel -> ../d/g", "n = m/up",
	)
}

// grown is a fit tree that grew by a seed: directories, files and links of few short names, so that many paths of these lead somewhere; Modes, limits, and which inodes are free, are what they are.
func grown(r *rand.Rand) api.Tree {
	b := empty(2 + r.Intn(40))
	free := r.Perm(len(b.Nodes) - 1)[r.Intn(3)*r.Intn(len(b.Nodes)/2):]
	dirs, others := []string{""}, []string{}
	for len(free) > 0 {
		p := strings.TrimPrefix(dirs[r.Intn(len(dirs))]+"/"+wildName(r), "/")
		if _, there := b.at[p]; there {
			dirs = append(dirs, dirs[r.Intn(len(dirs))])
			free = free[1:]
			continue
		}
		ino, mode := free[0]+1, 7
		if r.Intn(6) == 0 {
			mode = r.Intn(8)
		}
		switch what := r.Intn(10); {
		case what < 4:
			b = b.put(ino, api.Inode{Kind: api.InDir, Mode: mode}).named(p, ino)
			dirs = append(dirs, p)
		case what < 6:
			b = b.put(ino, api.Inode{Kind: api.InLink, Mode: mode, Data: wildPath(r, 3)}).named(p, ino)
			others = append(others, p)
		case what < 8 || len(others) == 0:
			b = b.put(ino, api.Inode{Kind: api.InFile, Mode: mode, Data: "x"}).named(p, ino)
			others = append(others, p)
		default:
			b = b.named(p, b.at[others[r.Intn(len(others))]])
			continue
		}
		free = free[1:]
	}
	return b.room(r.Intn(3) * r.Intn(30)).Tree
}

func wildName(r *rand.Rand) string { return []string{"a", "b", "c", "-", "...", "A"}[r.Intn(6)] }

// wildPath is a path of at most n names, which may be . and .., with or without slashes at both ends; it is never empty.
func wildPath(r *rand.Rand, n int) string {
	p := []string{"", "", "", "/", "//"}[r.Intn(5)]
	for range 1 + r.Intn(n) {
		name := wildName(r)
		switch r.Intn(12) {
		case 0:
			name = "."
		case 1:
			name = ".."
		}
		p += name + []string{"/", "/", "/", "//"}[r.Intn(4)]
	}
	if r.Intn(4) > 0 {
		p = strings.TrimRight(p, "/")
	}
	return p
}

// wildText is any path, or now and then one that no call can take.
func wildText(r *rand.Rand) string {
	switch r.Intn(24) {
	case 0:
		return ""
	case 1:
		return wildPath(r, 2) + "\x00"
	case 2:
		return strings.Repeat("n", 65)
	case 3:
		return strings.Repeat("./", 511+r.Intn(3)) + "a"
	}
	return wildPath(r, 4)
}
