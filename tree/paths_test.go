package tree

import (
	"slices"
	"testing"

	"windlass/api"
)

// P3.4: the iterator behind List may be left early, at any path, and gone through again from the beginning.
func TestPathsLeft(t *testing.T) {
	tr := api.Tree{Nodes: []api.Inode{
		{Kind: api.InDir, Kids: []api.Entry{{Name: "a", Ino: 1}, {Name: "d", Ino: 3}}},
		{Kind: api.InDir, Kids: []api.Entry{{Name: "b", Ino: 2}}},
		{Kind: api.InDir, Kids: []api.Entry{{Name: "c", Ino: 3}}},
		{Kind: api.InFile},
	}}
	want := []string{"/a", "/a/b", "/a/b/c", "/d"}
	all := paths(tr, root, "/")
	for n := range want {
		var got []string
		for p := range all {
			got = append(got, p)
			if len(got) > n {
				break
			}
		}
		if !slices.Equal(got, want[:n+1]) {
			t.Errorf("the first %d paths = %q", n+1, got)
		}
	}
	if got := slices.Collect(all); !slices.Equal(got, want) {
		t.Errorf("paths = %q", got)
	}
}
