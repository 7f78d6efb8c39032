package patt

// pattern is a pattern's bytes, which of them are quoted, and where its sets would close.
type pattern struct {
	text, quoted string
	closes       []int // of each place at which a member could begin that is not its set's first: where that set closes, or none
}

// wants is what a pattern wants, in order.
func wants(text, quoted string) []want {
	p := pattern{text: text, quoted: quoted}
	p.closes = p.closings()
	var row []want
	for at := 0; at < len(text); {
		wanted, behind := p.want(at)
		// A way passes one want that repeats at a time: a second one right behind it, which wants nothing more, is left out.
		if len(row) == 0 || !repeats(wanted) || !repeats(row[len(row)-1]) {
			row = append(row, wanted)
		}
		at = behind
	}
	return row
}

// plain tells whether such a byte stands at a place, and is not quoted.
func (p pattern) plain(at int, c byte) bool {
	if at >= len(p.text) || p.text[at] != c {
		return false
	}
	return at >= len(p.quoted) || p.quoted[at] != '1'
}

// want is what is wanted at a place, and where it ends.
func (p pattern) want(at int) (want, int) {
	switch {
	case p.plain(at, '?'):
		return one{}, at + 1
	case p.plain(at, '*'):
		return many{}, at + 1
	case p.plain(at, '['):
		if wanted, behind, closed := p.set(at + 1); closed {
			return wanted, behind
		}
	}
	return just(p.text[at]), at + 1
}

// set is the set behind a [, where it ends, and whether it is closed.
func (p pattern) set(at int) (set, int, bool) {
	found := set{turned: p.plain(at, '!')}
	if found.turned {
		at++
	}
	if at == len(p.text) {
		return set{}, 0, false
	}
	// The first member's first byte closes nothing, so that what is asked is behind that member.
	end := p.closes[p.behind(at)]
	if end == none {
		return set{}, 0, false
	}
	for at < end {
		found.members = append(found.members, p.member(at))
		at = p.behind(at)
	}
	return found, end + 1, true
}

// closings is what closes has. It is told from the end on, so that it takes no longer if many a [ is not closed.
func (p pattern) closings() []int {
	length := len(p.text)
	closes := make([]int, length+1)
	closes[length] = none
	for n := range length {
		at := length - 1 - n
		if p.plain(at, ']') {
			closes[at] = at
		} else {
			closes[at] = closes[p.behind(at)]
		}
	}
	return closes
}

// member is the member of a set at a place.
func (p pattern) member(at int) want {
	if end, ok := p.classEnd(at); ok {
		return class(p.text[at+len("[:") : end-len(":]")])
	}
	if p.ranges(at) {
		return span{p.text[at], p.text[at+2]}
	}
	return just(p.text[at])
}

// behind is where the member at a place ends.
func (p pattern) behind(at int) int {
	if end, ok := p.classEnd(at); ok {
		return end
	}
	if p.ranges(at) {
		return at + 3
	}
	return at + 1
}

// ranges tells whether the byte at a place is the first of all from it to another one.
func (p pattern) ranges(at int) bool {
	return p.plain(at+1, '-') && at+2 < len(p.text) && !p.plain(at+2, ']')
}

// classEnd is where the class at a place ends, if one is there.
func (p pattern) classEnd(at int) (int, bool) {
	if !p.plain(at, '[') || !p.plain(at+1, ':') {
		return 0, false
	}
	end := at + 2
	for end < len(p.text) && p.plain(end, p.text[end]) && 'a' <= p.text[end] && p.text[end] <= 'z' {
		end++
	}
	return end + 2, p.plain(end, ':') && p.plain(end+1, ']')
}
