package path

import (
	"slices"
	"testing"
)

// P2.1: the iterator behind Parts may be left early, and gone through again from the beginning.
func TestNamesLeft(t *testing.T) {
	all := names("/a//b/c/")
	for name := range all {
		if name != "a" {
			t.Errorf("a first name %q", name)
		}
		break
	}
	for i := 0; i < 2; i++ {
		if got := slices.Collect(all); !slices.Equal(got, []string{"a", "b", "c"}) {
			t.Errorf("names = %q", got)
		}
	}
}
