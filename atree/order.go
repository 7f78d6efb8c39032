package atree

import "windlass/api"

// What may stand at a token.
const (
	assignment = iota // an assignment, which may be a choice
	choice            // a choice
	term              // a term of level 11
	target            // an assignment's operator, which was seen behind its name
	behind            // what may stand behind a term: an operator, a bracket that closes, the end
)

// order goes along an expression's tokens, and knows whether each one can stand there, and within how many things. It goes down by a row of its own, so that a text may be as deep as it is: where it is too deep, what is behind is asked, too.
type order struct {
	wants  int
	within int // how many terms of level 11, assignments and choices the last token is within, those that it begins counted
	around int // how many of these the terms of the choice are within that is under way
	open   []opened
}

// opened is a bracket that waits for the one that closes it, or a ? that waits for its :, and what was around it.
type opened struct {
	op     string
	around int
}

// wrong is where tokens are no expression, and why; OK, if they are one.
func wrong(tokens []api.Atok) (int, api.Errno) {
	place, err := 0, api.OK
	o := order{wants: assignment}
	for i, x := range tokens {
		if !o.pass(tokens[i:]) {
			return x.At, api.ErrSyntax
		}
		// What can't stand there is the chapter's first error, and told even where it is further to the right: so this goes on.
		if o.within > api.MaxDeep && err == api.OK {
			place, err = x.At, api.ErrDeep
		}
	}
	return place, err
}

// assigned tells whether tokens begin with a name, and an operator that assigns right behind it.
func assigned(tokens []api.Atok) bool {
	return tokens[0].Kind == api.AtName && assigns(tokens[1].Text)
}

// pass goes on over the first one of tokens; whether it can stand there.
func (o *order) pass(tokens []api.Atok) bool {
	switch o.wants {
	case assignment:
		o.within++
		if assigned(tokens) {
			o.wants = target
			return true
		}
		fallthrough
	case choice:
		o.within++
		o.around = o.within
		fallthrough
	case term:
		o.within++
		return o.begin(tokens[0])
	case target:
		o.wants = assignment
		return true
	}
	return o.goOn(tokens[0])
}

// begin goes on over a token that begins a term of level 11; whether it can.
func (o *order) begin(x api.Atok) bool {
	switch {
	case x.Kind == api.AtNum, x.Kind == api.AtName:
		o.wants = behind
	case sign(x.Text):
		o.wants = term
	case x.Text == "(":
		o.enter(x.Text)
	default:
		return false
	}
	return true
}

// goOn goes on over a token behind a term; whether it can stand there.
func (o *order) goOn(x api.Atok) bool {
	o.within = o.around
	switch {
	case between(x.Text):
		o.wants = term
	case x.Text == "?":
		o.enter(x.Text)
	case x.Text == ":":
		o.wants = choice
		return o.leave("?")
	case x.Text == ")":
		return o.leave("(")
	default:
		return x.Kind == api.AtEnd && len(o.open) == 0
	}
	return true
}

// enter goes into what an operator opens, an assignment.
func (o *order) enter(op string) {
	o.open = append(o.open, opened{op, o.around})
	o.wants = assignment
}

// leave goes out of what was opened last; whether that was by this operator.
func (o *order) leave(op string) bool {
	last := len(o.open) - 1
	if last < 0 || o.open[last].op != op {
		return false
	}
	o.around = o.open[last].around
	o.within = o.around
	o.open = o.open[:last]
	return true
}
