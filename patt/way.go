package patt

// lengths is, of each length from 0 on, whether so many first bytes of a text are as a row of wants has it.
func lengths(row []want, s string) []bool {
	fits := make([]bool, len(s)+1)
	w := way{row: row, at: bitsOf(row), stays: bitsOf(row)}
	w.begin()
	for n := range len(fits) {
		fits[n] = w.at.has(len(row))
		if n == len(s) || !w.take(s[n]) {
			break
		}
	}
	return fits
}

// way is at how many places at once in a row of wants a text can be, from its beginning on: a place is ahead of its want, the last one behind all.
type way struct {
	row   []want
	at    bits
	stays bits      // the places of wants that repeat
	takes [256]bits // by a byte: the places of wants that take it, as soon as it was met
}

// begin goes to where a text begins.
func (w *way) begin() {
	for place, wanted := range w.row {
		if repeats(wanted) {
			w.stays.put(place)
		}
	}
	w.at.put(0)
	w.pass()
}

// take goes on by a byte; whether there is any place left.
func (w *way) take(c byte) bool {
	takes := w.taking(c)
	left, carried := uint64(0), uint64(0)
	for i, at := range w.at {
		taken := at & takes[i]
		on := taken &^ w.stays[i]
		w.at[i] = taken&w.stays[i] | on<<1 | carried
		carried = on >> 63
		left |= w.at[i]
	}
	w.pass()
	return left != 0
}

// pass goes on without a byte, past wants that repeat: they take none, too. No two of these stand side by side.
func (w *way) pass() {
	carried := uint64(0)
	for i := range w.at {
		w.at[i] |= carried
		on := w.at[i] & w.stays[i]
		w.at[i] |= on << 1
		carried = on >> 63
	}
}

// taking is the places of wants that take a byte.
func (w *way) taking(c byte) bits {
	if w.takes[c] == nil {
		w.takes[c] = bitsOf(w.row)
		for place, wanted := range w.row {
			if wanted.takes(c) {
				w.takes[c].put(place)
			}
		}
	}
	return w.takes[c]
}

// bits is a row of places that are in it or not, 64 in a number.
type bits []uint64

// bitsOf is the places of a row of wants, none of which is in it.
func bitsOf(row []want) bits { return make(bits, len(row)/64+1) }

func (b bits) put(place int) { b[place/64] |= 1 << (place % 64) }

func (b bits) has(place int) bool { return b[place/64]>>(place%64)&1 == 1 }
