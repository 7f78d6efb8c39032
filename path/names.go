package path

import (
	"iter"
	"strings"
)

const (
	slash = "/"
	here  = "."
	up    = ".."
)

// names hands out a path's names, one after another.
func names(p string) iter.Seq[string] {
	return func(yield func(string) bool) {
		// A rest of its own, so that the iterator can be gone through again.
		for rest := p; rest != ""; {
			var name string
			name, rest, _ = strings.Cut(rest, slash)
			if name != "" && !yield(name) {
				return
			}
		}
	}
}

// rooted tells whether a path begins at the root.
func rooted(p string) bool { return strings.HasPrefix(p, slash) }

// root is what a path has ahead of its names: a slash, if it begins at the root.
func root(p string) string {
	if rooted(p) {
		return slash
	}
	return ""
}

// stack is the names that were come by and not taken back.
type stack struct{ names []string }

func (s *stack) push(name string) { s.names = append(s.names, name) }

// pop takes the last name back; of no names none, since above the root is the root.
func (s *stack) pop() {
	if n := len(s.names); n > 0 {
		s.names = s.names[:n-1]
	}
}

// text is the names that are left, a slash between.
func (s *stack) text() string { return strings.Join(s.names, slash) }
