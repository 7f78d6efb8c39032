package tree

import (
	"strings"

	"windlass/api"
	"windlass/path"
)

const (
	maxMode = 7
	maxKids = 1024 // names of a directory
	maxTo   = api.MaxPath
)

// Fit tells whether a tree can be.
func Fit(t api.Tree) bool {
	// What is asked later takes it that what was asked ahead of it holds.
	return withinLimits(t) && isDir(t, root) && t.Nodes[root].Up == root && inodesFit(t) && namesFit(t) && upsLead(t)
}

// withinLimits tells whether a tree has as many inodes and bytes as there may be, and such limits as it may have.
func withinLimits(t api.Tree) bool {
	if len(t.Nodes) < 1 || len(t.Nodes) > t.MaxNodes || t.MaxNodes > api.MaxNodes {
		return false
	}
	_, bytes := Used(t)
	return bytes <= t.MaxBytes && t.MaxBytes <= api.MaxBytes
}

// inodesFit tells whether each inode has what one of its kind has, and its names are such as can be.
func inodesFit(t api.Tree) bool {
	for _, n := range t.Nodes {
		if !inodeFits(n) || !kidsFit(t, n.Kids) {
			return false
		}
	}
	return true
}

// inodeFits tells whether an inode has what one of its kind has.
func inodeFits(n api.Inode) bool {
	if n.Kind == api.InFree {
		return sameInode(n, api.Inode{})
	}
	if n.Mode < 0 || n.Mode > maxMode {
		return false
	}
	alone := len(n.Kids) == 0 && n.Up == root
	switch n.Kind {
	case api.InFile:
		return alone
	case api.InLink:
		return alone && n.Data != "" && len(n.Data) <= maxTo && strings.IndexByte(n.Data, 0) < 0
	case api.InDir:
		return n.Data == ""
	}
	return false
}

// kidsFit tells whether a directory's names rise, and are such as can stand there, of inodes that are there.
func kidsFit(t api.Tree, kids []api.Entry) bool {
	if len(kids) > maxKids {
		return false
	}
	for i, e := range kids {
		if i > 0 && kids[i-1].Name >= e.Name || !path.Name(e.Name) {
			return false
		}
		if e.Ino < 0 || e.Ino >= len(t.Nodes) {
			return false
		}
	}
	return true
}

// namesFit tells whether each inode has as many names as its Links say and as one of its kind may have, and each directory is in its Up.
func namesFit(t api.Tree) bool {
	names := make([]int, len(t.Nodes))
	for dir, n := range t.Nodes {
		for _, e := range n.Kids {
			names[e.Ino]++
			if isDir(t, e.Ino) && t.Nodes[e.Ino].Up != dir {
				return false
			}
		}
	}
	for ino, n := range t.Nodes {
		if n.Links != names[ino] || !mayHave(n.Kind, ino, names[ino]) {
			return false
		}
	}
	return true
}

// mayHave tells whether an inode of a kind may have so many names: the root and a free one none, another directory one, since with two of them List would tell more paths than there are names.
func mayHave(kind, ino, names int) bool {
	switch {
	case ino == root || kind == api.InFree:
		return names == 0
	case kind == api.InDir:
		return names == 1
	}
	return names >= 1
}

// upsLead tells whether going Up from each directory leads to the root.
func upsLead(t api.Tree) bool {
	for ino := range t.Nodes {
		if isDir(t, ino) && !leads(t, ino) {
			return false
		}
	}
	return true
}

// leads tells whether going Up from a directory leads to the root: if so, in fewer steps than there are inodes.
func leads(t api.Tree, dir int) bool {
	for range t.Nodes {
		if dir == root {
			return true
		}
		dir = t.Nodes[dir].Up
	}
	return false
}
