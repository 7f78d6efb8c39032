package tree_test

import (
	"math/rand"
	"slices"
	"strconv"
	"strings"

	"windlass/api"
)

// names is a directory's Kids, by turns a name and its inode.
func names(l ...any) []api.Entry {
	var kids []api.Entry
	for i := 0; i < len(l); i += 2 {
		kids = append(kids, api.Entry{Name: l[i].(string), Ino: l[i+1].(int)})
	}
	return kids
}

func dir(up, links int, kids ...any) api.Inode {
	return api.Inode{Kind: api.InDir, Mode: 7, Links: links, Up: up, Kids: names(kids...)}
}

func file(links int, data string) api.Inode {
	return api.Inode{Kind: api.InFile, Mode: 6, Links: links, Data: data}
}

func link(links int, to string) api.Inode {
	return api.Inode{Kind: api.InLink, Mode: 7, Links: links, Data: to}
}

// sample is a small tree that has one of each, and a file of two names: /d, /d/e, /d/e/f, /d/g, /h, /l, /m (at 0, and from 1 on in this order; /h is /d/e/f; at 5 and 8 there is none).
func sample() api.Tree {
	return api.Tree{
		Nodes: []api.Inode{
			dir(0, 0, "d", 1, "h", 3, "l", 6, "m", 7),
			dir(0, 1, "e", 2, "g", 4),
			dir(1, 1, "f", 3),
			file(2, "three"),
			file(1, ""),
			{},
			link(1, "d/e"),
			dir(0, 1),
			{},
		},
		MaxNodes: 10, MaxBytes: 20,
	}
}

// copied is a tree that shares nothing with the one that it is like.
func copied(t api.Tree) api.Tree {
	t.Nodes = slices.Clone(t.Nodes)
	for i := range t.Nodes {
		t.Nodes[i].Kids = slices.Clone(t.Nodes[i].Kids)
	}
	return t
}

// bare is a tree of these inodes with the widest limits.
func bare(nodes ...api.Inode) api.Tree {
	return api.Tree{Nodes: nodes, MaxNodes: 256, MaxBytes: 65536}
}

// chain is a tree of n directories, each of which but the root lies in the one ahead of it, by the name that is told for it.
func chain(n int, name func(i int) string) api.Tree {
	nodes := []api.Inode{dir(0, 0)}
	for i := 1; i < n; i++ {
		nodes[i-1].Kids = names(name(i), i)
		nodes = append(nodes, dir(i-1, 1))
	}
	return bare(nodes...)
}

// wide is a tree of one file that has n names in the root.
func wide(n int) api.Tree {
	t := bare(dir(0, 0), file(n, ""))
	for i := range n {
		t.Nodes[0].Kids = append(t.Nodes[0].Kids, api.Entry{Name: strconv.Itoa(10000 + i), Ino: 1})
	}
	return t
}

// grown is a fit tree that grew by a seed, and what was noted down when it did.
type grown struct {
	tree   api.Tree
	places map[int]string         // of the directories
	kids   map[int]map[string]int // the directories' names
	names  int
}

// grow makes as many names as a seed says, each in a directory that is there: of a new inode, or a further one of a file or a link.
func grow(seed int64) grown {
	r := rand.New(rand.NewSource(seed))
	g := grown{bare(dir(0, 0)), map[int]string{0: "/"}, map[int]map[string]int{0: {}}, 0}
	dirs, others := []int{0}, []int{}
	for range r.Intn(300) {
		in, name := dirs[r.Intn(len(dirs))], wildName(r)
		if _, there := g.kids[in][name]; there {
			continue
		}
		ino := len(g.tree.Nodes)
		what := r.Intn(6)
		if ino == 256 {
			what = 5
		}
		switch {
		case what < 2:
			g.tree.Nodes = append(g.tree.Nodes, dir(in, 1))
			g.kids[ino] = map[string]int{}
			g.places[ino] = strings.TrimSuffix(g.places[in], "/") + "/" + name
			dirs = append(dirs, ino)
		case what < 5:
			n := file(1, strings.Repeat("x", r.Intn(100)))
			if what == 4 {
				n = link(1, wildName(r))
			}
			n.Mode = r.Intn(8)
			g.tree.Nodes = append(g.tree.Nodes, n)
			others = append(others, ino)
		case len(others) == 0:
			continue
		default:
			ino = others[r.Intn(len(others))]
			g.tree.Nodes[ino].Links++
		}
		g.kids[in][name] = ino
		g.names++
		g.put(in, name, ino)
	}
	return g
}

// put lays a name where the order by bytes has it.
func (g *grown) put(in int, name string, ino int) {
	kids := append(g.tree.Nodes[in].Kids, api.Entry{Name: name, Ino: ino})
	slices.SortFunc(kids, func(a, b api.Entry) int { return strings.Compare(a.Name, b.Name) })
	g.tree.Nodes[in].Kids = kids
}

// wildName is a name of bytes that stand near a slash and a dot, of capitals and small letters, and of bytes above ASCII.
func wildName(r *rand.Rand) string {
	const all = "-.0aAzZ~ \n\x01\x7f\x80\xff"
	b := make([]byte, 1+r.Intn(3))
	for i := range b {
		b[i] = all[r.Intn(len(all))]
	}
	if s := string(b); s != "." && s != ".." {
		return s
	}
	return "..."
}
