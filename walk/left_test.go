package walk

import (
	"slices"
	"testing"

	"windlass/api"
)

// P4.2: names that are laid on the way come ahead of those that were left; an iterator that is left early keeps the rest.
func TestNamesLeft(t *testing.T) {
	w := way{tree: api.Tree{Nodes: make([]api.Inode, 6)}, at: 5}
	w.enter("a//b/c/")
	var got []string
	for name := range w.names() {
		got = append(got, name)
		if name == "a" {
			w.enter("x/y")
		}
		if name == "b" {
			break
		}
	}
	if want := []string{"a", "x", "y", "b"}; !slices.Equal(got, want) || w.at != 5 {
		t.Errorf("names = %q, at %d", got, w.at)
	}
	w.enter("/z")
	if got := slices.Collect(w.names()); !slices.Equal(got, []string{"z", "c"}) || w.at != root {
		t.Errorf("the rest = %q, at %d", got, w.at)
	}
	if got := slices.Collect(w.names()); len(got) != 0 {
		t.Errorf("behind the end = %q", got)
	}
}

// P4.3: the last of the names is left out, not the next one.
func TestLeaveOut(t *testing.T) {
	w := way{}
	w.enter("a/b/c")
	name, ok := w.leaveOut()
	if name != "c" || !ok {
		t.Errorf("leaveOut = %q, %v", name, ok)
	}
	if got := slices.Collect(w.names()); !slices.Equal(got, []string{"a", "b"}) {
		t.Errorf("the others = %q", got)
	}
	if name, ok := w.leaveOut(); name != "" || ok {
		t.Errorf("leaveOut of no names = %q, %v", name, ok)
	}
}
