package glob

import (
	"iter"
	"strings"

	"windlass/patt"
)

// part is what stands between two slashes of a pattern, and which of its bytes are quoted.
type part struct {
	text, quoted string
	magic        bool
	slash        bool // one stands behind it, so that what is there is to be a directory
}

// parts hands out a pattern's parts, one after another.
func parts(p, quoted string) iter.Seq[part] {
	return func(yield func(part) bool) {
		rest, at := p, 0
		for slash := true; slash; {
			var text string
			text, rest, slash = strings.Cut(rest, "/")
			end := at + len(text)
			if text != "" && !yield(partOf(text, own(quoted, at, end), slash)) {
				return
			}
			at = end + len("/")
		}
	}
}

func partOf(text, quoted string, slash bool) part {
	return part{text, quoted, patt.Magic(text, quoted), slash}
}

// own is what quoted says of the bytes from one place to another, as far as it says anything of them.
func own(quoted string, at, end int) string {
	return quoted[min(at, len(quoted)):min(end, len(quoted))]
}

// wants tells whether a name is as a part with Magic wants it.
func (x part) wants(name string) bool {
	if strings.HasPrefix(name, ".") && x.text[0] != '.' {
		return false
	}
	return patt.Match(x.text, x.quoted, name)
}
