package atree

import "windlass/api"

// reader reads operations off the tokens of an expression that is neither wrong nor too deep.
type reader struct {
	tokens []api.Atok
	row    []api.Anode
	first  func() int // reads a term of level 1
}

// operations is an expression's tokens as a row of operations.
func operations(tokens []api.Atok) []api.Anode {
	r := &reader{tokens: tokens}
	r.first = r.level(1)
	r.assignment()
	return r.row
}

// level is what reads a term of a level; its place is told, as by all that reads here.
func (r *reader) level(k int) func() int {
	if k == len(levels) {
		return r.last
	}
	next := r.level(k + 1)
	return func() int {
		place := next()
		for joins(k, r.tokens[0].Text) {
			op := r.take().Text
			place = r.put(api.Anode{Op: op, Kids: []int{place, next()}})
		}
		return place
	}
}

// last reads a term of the last level.
func (r *reader) last() int {
	x := r.take()
	switch {
	case x.Kind == api.AtNum:
		return r.put(api.Anode{Op: number, Num: x.Num})
	case x.Kind == api.AtName:
		return r.put(api.Anode{Op: name, Name: x.Text})
	case sign(x.Text):
		return r.put(api.Anode{Op: signed + x.Text, Kids: []int{r.last()}})
	}
	place := r.assignment()
	r.take() // the bracket that closes
	return place
}

// assignment reads one, which may be a choice.
func (r *reader) assignment() int {
	if !assigned(r.tokens) {
		return r.choice()
	}
	to, op := r.take().Text, r.take().Text
	return r.put(api.Anode{Op: op, Name: to, Kids: []int{r.assignment()}})
}

// choice reads one, which may be a term of level 1.
func (r *reader) choice() int {
	asked := r.first()
	if r.tokens[0].Text != "?" {
		return asked
	}
	op := r.take().Text
	then := r.assignment()
	r.take() // the :
	return r.put(api.Anode{Op: op, Kids: []int{asked, then, r.choice()}})
}

// take takes the next token off.
func (r *reader) take() api.Atok {
	x := r.tokens[0]
	r.tokens = r.tokens[1:]
	return x
}

// put lays an operation behind those that are there, and tells its place.
func (r *reader) put(x api.Anode) int {
	r.row = append(r.row, x)
	return len(r.row) - 1
}
