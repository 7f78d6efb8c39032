package nodes_test

import (
	"reflect"
	"slices"
	"strings"
	"testing"

	"windlass/api"
	"windlass/nodes"
)

func entries(names ...string) []api.Entry {
	var kids []api.Entry
	for i, name := range names {
		kids = append(kids, api.Entry{Name: name, Ino: i + 1})
	}
	return kids
}

// P5.1, P6.1 (0.5): a copy has all that the tree has, and shares nothing with it.
func TestCopy(t *testing.T) {
	made := func() api.Tree {
		return api.Tree{
			Nodes: []api.Inode{
				{Kind: api.InDir, Mode: 7, Kids: entries("a", "b")},
				{Kind: api.InFile, Mode: 6, Links: 1, Data: "x"},
				{Kind: api.InDir, Mode: 5, Links: 1, Up: 1, Kids: entries("c")},
				{},
			},
			MaxNodes: 9, MaxBytes: 99,
		}
	}
	s := made()
	told := nodes.Copy(s)
	if !reflect.DeepEqual(told, s) {
		t.Errorf("Copy = %v, not %v", told, s)
	}
	told.Nodes[0].Kids[1].Name, told.Nodes[2].Kids[0].Ino = "scrawled", -7
	told.Nodes[1], told.Nodes[3].Kind = api.Inode{}, api.InFile
	if !reflect.DeepEqual(s, made()) {
		t.Errorf("behind a change of the copy: %v", s)
	}
	if told := nodes.Copy(api.Tree{}); !reflect.DeepEqual(told, api.Tree{}) {
		t.Errorf("Copy of nothing = %v", told)
	}
}

// P5.1, P6.3: a name more stands where the order by bytes has it; what was handed in is what it was.
func TestWith(t *testing.T) {
	for names, name := range map[string]string{"": "a", "b": "a", "a": "b", "a c": "b", "a b c": "d", "B b c": "C", "a aa": "a!", "a b ~": "\xff", "b c d": "\x01"} {
		kids := slices.Grow(entries(strings.Fields(names)...), 4)
		was := slices.Clone(kids)
		made := nodes.With(kids, name, 77)
		want := append(slices.Clone(was), api.Entry{Name: name, Ino: 77})
		slices.SortFunc(want, func(a, b api.Entry) int { return strings.Compare(a.Name, b.Name) })
		if !slices.Equal(made, want) {
			t.Errorf("With(%s, %q) = %v", names, name, made)
		}
		for i := range made {
			made[i].Name = "scrawled"
		}
		if !slices.Equal(kids, was) || slices.ContainsFunc(kids[:cap(kids)], func(e api.Entry) bool { return e.Ino == 77 }) {
			t.Errorf("With(%s, %q) changed what it was given: %v", names, name, kids[:cap(kids)])
		}
	}
}

// P6.1: a name less; of no names that are left none; what was handed in is what it was.
func TestWithout(t *testing.T) {
	for _, name := range []string{"a", "b", "c", "x", ""} {
		kids := entries("a", "b", "c")
		made := nodes.Without(kids, name)
		var want []api.Entry
		for _, e := range entries("a", "b", "c") {
			if e.Name != name {
				want = append(want, e)
			}
		}
		if !slices.Equal(made, want) {
			t.Errorf("Without(%q) = %v", name, made)
		}
		for i := range made {
			made[i].Name = "scrawled"
		}
		if !slices.Equal(kids, entries("a", "b", "c")) {
			t.Errorf("Without(%q) changed what it was given: %v", name, kids)
		}
	}
	if made := nodes.Without(entries("a"), "a"); made != nil {
		t.Errorf("Without the only one = %v", made)
	}
	if made := nodes.Without(nil, "a"); made != nil {
		t.Errorf("Without one of none = %v", made)
	}
}

// P5.2, P7.2, P7.3: room is asked of all bytes that a tree has, files' and links'; fewer bytes are a number below 0.
func TestHasRoom(t *testing.T) {
	s := api.Tree{
		Nodes: []api.Inode{
			{Kind: api.InDir, Mode: 7, Kids: entries("a", "b")},
			{Kind: api.InFile, Mode: 6, Links: 1, Data: "text"},
			{Kind: api.InLink, Mode: 7, Links: 1, Data: "to"},
			{},
		},
		MaxNodes: 4, MaxBytes: 10,
	}
	for more, want := range map[int]bool{-6: true, -1: true, 0: true, 1: true, 3: true, 4: true, 5: false, 100: false} {
		if nodes.HasRoom(s, more) != want {
			t.Errorf("HasRoom(%d) = %v", more, !want)
		}
	}
	s.MaxBytes = 6
	if !nodes.HasRoom(s, 0) || nodes.HasRoom(s, 1) {
		t.Error("HasRoom of a full tree")
	}
}
