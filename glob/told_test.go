package glob_test

import (
	"slices"
	"strings"

	"windlass/api"
	"windlass/path"
	"windlass/patt"
	"windlass/walk"
)

// The chapter told a second way: of all rows of names that there could be, those all of whose beginnings stay.

// piece is a part, as the chapter has it, and whether it is the last one.
type piece struct {
	pat
	last bool
}

// pieces is a pattern's parts: its bytes and its marks are split alike, a mark / standing wherever a byte / does.
func (p pat) pieces() []piece {
	marks := []byte((p.quoted + strings.Repeat("0", len(p.text)))[:len(p.text)])
	for i, c := range []byte(p.text) {
		if c == '/' {
			marks[i] = '/'
		} else if marks[i] == '/' {
			marks[i] = '0'
		}
	}
	var all []piece
	quoted := strings.Split(string(marks), "/")
	for i, text := range strings.Split(p.text, "/") {
		if text != "" {
			all = append(all, piece{pat: pat{text, quoted[i]}})
		}
	}
	if len(all) > 0 {
		all[len(all)-1].last = true
	}
	return all
}

func (p pat) magic() bool { return patt.Magic(p.text, p.quoted) }

// teller tells the paths of a pattern from a directory on.
type teller struct {
	api.Tree
	cwd    int
	names  []string // all that could stand in a part's place
	pieces []piece
	slash  bool
	counts []int // behind each part: how many paths
	paths  []string
}

// told is the paths that a pattern is to have.
func (p pat) told(s api.Tree, cwd int) []string {
	if !p.magic() {
		return nil
	}
	x := teller{Tree: s, cwd: cwd, pieces: p.pieces(), slash: p.text[len(p.text)-1] == '/'}
	names := map[string]bool{}
	for _, y := range x.pieces {
		names[y.text] = true
	}
	for _, n := range s.Nodes {
		for _, e := range n.Kids {
			names[e.Name] = true
		}
	}
	for name := range names {
		x.names = append(x.names, name)
	}
	x.counts = make([]int, len(x.pieces))
	x.from("", 0, p.text[0] == '/')
	if slices.Max(x.counts) > 1024 {
		return nil
	}
	slices.Sort(x.paths)
	return x.paths
}

// from tells what stays of a path, so many parts being in it, by all names behind it.
func (x *teller) from(so string, parts int, rooted bool) {
	if parts == len(x.pieces) {
		if x.slash {
			so += "/"
		}
		x.paths = append(x.paths, so)
		return
	}
	for _, name := range x.names {
		next := so + "/" + name
		if so == "" && !rooted {
			next = name
		}
		if x.stays(so, next, name, x.pieces[parts], rooted) {
			x.counts[parts]++
			x.from(next, parts+1, rooted)
		}
	}
}

// stays tells whether a path stays behind a part, for which the name in it stands.
func (x *teller) stays(so, next, name string, part piece, rooted bool) bool {
	if part.magic() {
		if so == "" && rooted {
			so = "/"
		} else if so == "" {
			so = "."
		}
		if !x.has(so, name) || !part.wants(name) {
			return false
		}
	} else if name != part.text {
		return false
	} else if _, err := walk.Walk(x.Tree, x.cwd, next, false); err != api.OK {
		return false
	}
	return part.last && !x.slash || x.leads(next)
}

// wants tells whether a part with Magic wants a name.
func (x piece) wants(name string) bool {
	dots := name[0] == '.' && x.text[0] != '.'
	return !dots && patt.Match(x.text, x.quoted, name)
}

// leads tells whether a path leads to a directory.
func (x *teller) leads(p string) bool {
	ino, err := walk.Walk(x.Tree, x.cwd, p, true)
	return err == api.OK && x.Nodes[ino].Kind == api.InDir
}

// has tells whether a path leads to a directory that may be read and has a name.
func (x *teller) has(p, name string) bool {
	ino, err := walk.Walk(x.Tree, x.cwd, p, true)
	if err != api.OK || x.Nodes[ino].Kind != api.InDir || x.Nodes[ino].Mode < 4 {
		return false
	}
	return slices.ContainsFunc(x.Nodes[ino].Kids, func(e api.Entry) bool { return e.Name == name })
}

// asWanted tells whether a path is as a pattern wants it, part by part.
func (p pat) asWanted(told string) bool {
	all, names := p.pieces(), path.Parts(told)
	if len(names) != len(all) || told[0] == '/' != (p.text[0] == '/') || strings.HasSuffix(told, "/") != strings.HasSuffix(p.text, "/") || strings.Contains(told, "//") {
		return false
	}
	for i, name := range names {
		if all[i].magic() && !all[i].wants(name) || !all[i].magic() && all[i].text != name {
			return false
		}
	}
	return true
}
