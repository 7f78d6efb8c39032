// Package nodes is what the layers that change trees have in common: copies of trees, room in them, and the names of a directory.
package nodes

import (
	"slices"
	"strings"

	"windlass/api"
	"windlass/tree"
)

const (
	Change  = 3    // the bits of a directory's Mode that are asked for to change its names
	MaxKids = 1024 // names of a directory
)

// Copy is a tree that is like another one and shares nothing with it.
func Copy(t api.Tree) api.Tree {
	t.Nodes = slices.Clone(t.Nodes)
	for i := range t.Nodes {
		t.Nodes[i].Kids = slices.Clone(t.Nodes[i].Kids)
	}
	return t
}

// HasRoom tells whether so many bytes more find room in a tree.
func HasRoom(t api.Tree, more int) bool {
	_, bytes := tree.Used(t)
	return bytes+more <= t.MaxBytes
}

// With is a directory's names and one more, which stands where the order by bytes has it.
func With(kids []api.Entry, name string, ino int) []api.Entry {
	i, _ := slices.BinarySearchFunc(kids, name, func(e api.Entry, name string) int {
		return strings.Compare(e.Name, name)
	})
	return slices.Insert(slices.Clone(kids), i, api.Entry{Name: name, Ino: ino})
}

// Without is a directory's names but one.
func Without(kids []api.Entry, name string) []api.Entry {
	var others []api.Entry
	for _, e := range kids {
		if e.Name != name {
			others = append(others, e)
		}
	}
	return others
}
