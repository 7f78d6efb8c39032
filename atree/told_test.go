package atree_test

import (
	"math/rand"
	"slices"
	"strconv"
	"strings"
	"testing"

	"windlass/api"
	"windlass/atok"
	"windlass/atree"
)

// grammar is the chapter's, what may be made of each kind of thing in turn: of A an assignment, of C a choice, of T1 to T11 the terms.
func grammar() map[string][][]string {
	g := map[string][][]string{
		"A":   {{"C"}},
		"C":   {{"T1"}, {"T1", "?", "A", ":", "C"}},
		"T11": {{"number"}, {"name"}, {"(", "A", ")"}},
	}
	for _, op := range setting {
		g["A"] = append(g["A"], []string{"name", op, "A"})
	}
	for _, op := range signs {
		g["T11"] = append(g["T11"], []string{op, "T11"})
	}
	levels := strings.Fields("T1 T2 T3 T4 T5 T6 T7 T8 T9 T10 T11")
	for i, ops := range byLevel {
		g[levels[i]] = [][]string{{levels[i+1]}}
		for _, op := range ops {
			g[levels[i]] = append(g[levels[i]], []string{levels[i], op, levels[i+1]})
		}
	}
	return g
}

// symbol is a token as the grammar has it.
func symbol(a api.Atok) string {
	return []string{api.AtNum: "number", api.AtName: "name", api.AtOp: a.Text}[a.Kind]
}

// made is a thing that was made of tokens, from one on: its kind, what it was made of; of a token alone its place.
type made struct {
	kind string
	from int
	of   []*made
}

// item is how far one of the grammar's ways to make a thing has come, from a token on.
type item struct {
	kind string
	way  []string
	from int
	of   []*made // what was made on that way
}

// begin puts all ways of a kind to the items, if they have not begun there.
func begin(g map[string][][]string, items []item, begun map[string]bool, kind string, at int) []item {
	if begun[kind] {
		return items
	}
	begun[kind] = true
	for _, way := range g[kind] {
		items = append(items, item{kind, way, at, nil})
	}
	return items
}

// on is an item that has come one further.
func (x item) on(m *made) item {
	x.of = append(slices.Clone(x.of), m)
	return x
}

// told reads tokens all ways at once, as Earley's does: the wholes that they make, and how many of them can stand where they stand. (As the grammar makes nothing in two ways, no item comes twice.)
func told(g map[string][][]string, tokens []api.Atok) ([]*made, int) {
	var waiting []map[string][]item // from each token on, by what they wait for
	begun := map[string]bool{}
	items := begin(g, nil, begun, "A", 0)
	for at := 0; ; at++ {
		wait := map[string][]item{}
		waiting = append(waiting, wait)
		var wholes []*made
		for i := 0; i < len(items); i++ {
			x := items[i]
			if len(x.of) < len(x.way) {
				want := x.way[len(x.of)]
				wait[want] = append(wait[want], x)
				items = begin(g, items, begun, want, at)
				continue
			}
			m := &made{x.kind, x.from, x.of}
			if x.kind == "A" && x.from == 0 {
				wholes = append(wholes, m)
			}
			// No thing is made of no token, so that all that wait for this one wait already.
			for _, y := range waiting[x.from][x.kind] {
				items = append(items, y.on(m))
			}
		}
		items = items[:0]
		clear(begun)
		if at < len(tokens) {
			for _, y := range wait[symbol(tokens[at])] {
				items = append(items, y.on(&made{symbol(tokens[at]), at, nil}))
			}
		}
		if len(items) == 0 {
			return wholes, at
		}
	}
}

// tree is a thing that was made as a tree.
func (m *made) tree(tokens []api.Atok) x {
	switch first := tokens[m.of[0].from]; {
	case len(m.of) == 1 && m.of[0].kind == "number":
		return num(first.Num)
	case len(m.of) == 1 && m.of[0].kind == "name":
		return ref(first.Text)
	case len(m.of) == 1:
		return m.of[0].tree(tokens)
	case len(m.of) == 2:
		return signed(m.of[0].kind, m.of[1].tree(tokens))
	case len(m.of) == 5:
		return chosen(m.of[0].tree(tokens), m.of[2].tree(tokens), m.of[4].tree(tokens))
	case m.of[0].kind == "(":
		return m.of[1].tree(tokens)
	case m.kind == "A":
		return set(first.Text, m.of[1].kind, m.of[2].tree(tokens))
	}
	return both(m.of[0].tree(tokens), m.of[1].kind, m.of[2].tree(tokens))
}

// tooDeep is the first token at which too many things are within one another, if there is one; and how many are at most.
func (m *made) tooDeep(within int) (int, bool, int) {
	place, is := 0, false
	if m.kind == "A" || m.kind == "C" || m.kind == "T11" {
		within++
	}
	if within > deepest {
		place, is = m.from, true
	}
	down := within
	for _, x := range m.of {
		p, deep, most := x.tooDeep(within)
		if deep && (!is || p < place) {
			place, is = p, true
		}
		down = max(down, most)
	}
	return place, is, down
}

// toldParse is the chapter's P13.2, told another way; and how many things are within one another.
func toldParse(g map[string][][]string, s string) ([]api.Anode, int, api.Errno, int) {
	tokens, place, err := atok.Tokens(s)
	if err != api.OK {
		return nil, place, err, 0
	}
	wholes, stand := told(g, tokens[:len(tokens)-1])
	if stand < len(tokens)-1 || len(wholes) == 0 {
		return nil, tokens[stand].At, api.ErrSyntax, 0
	}
	if len(wholes) > 1 {
		panic("two wholes of " + s)
	}
	place, is, deep := wholes[0].tooDeep(0)
	if is {
		return nil, tokens[place].At, api.ErrDeep, deep
	}
	l := row(wholes[0].tree(tokens))
	if len(l) > mostOps {
		return nil, len(s), api.ErrMany, deep
	}
	return l, 0, api.OK, deep
}

// asTold asks that a text is what the other way tells, and tells the error, and how many things are within one another.
func asTold(t *testing.T, g map[string][][]string, s string) (api.Errno, int) {
	t.Helper()
	l, place, err := atree.Parse(s)
	wantRow, wantPlace, wantErr, deep := toldParse(g, s)
	if place != wantPlace || err != wantErr || !equal(l, wantRow) {
		t.Fatalf("Parse(%s) = %s, %d, %v, not %s, %d, %v", short(s), listed(l), place, err, listed(wantRow), wantPlace, wantErr)
	}
	return err, deep
}

// P13.2: all rows of up to five tokens, and of six of fewer kinds; of those that begin with a token that can't stand there just one.
func TestAllShortRows(t *testing.T) {
	t.Parallel()
	g := grammar()
	met := map[api.Errno]int{}
	var all func(s string, tokens []string, left int)
	all = func(s string, tokens []string, left int) {
		err, _ := asTold(t, g, s)
		met[err]++
		_, place, _ := atree.Parse(s)
		if left == 0 || err == api.ErrSyntax && place < len(s) {
			return
		}
		for _, x := range tokens {
			all(s+x+" ", tokens, left-1)
		}
	}
	all("", strings.Fields("1 a + = ( ) ? : ! <<= && *"), 5)
	all("", strings.Fields("1 a - = ( ) ? :"), 6)
	all("", strings.Fields("1 ( ) ? :"), 9)
	all("", strings.Fields("a = ? :"), 9)
	if met[api.OK] < 500 || met[api.ErrSyntax] < 10000 {
		t.Errorf("errors met: %v", met)
	}
}

// P13.2: each two tokens side by side, and each three, of all that there are, within an expression.
func TestAllTokensSideBySide(t *testing.T) {
	t.Parallel()
	g := grammar()
	all := slices.Concat([]string{"1", "a", "?", ":", "(", ")", "!", "~"}, joining, setting)
	for _, p := range all {
		for _, q := range all {
			for _, s := range []string{p + " " + q, "1" + p + " " + q + " 1", "(a " + p + " " + q + " a)", "1?" + p + " " + q + " 1:2", "a=" + p + " " + q + " a"} {
				asTold(t, g, s)
			}
		}
	}
}

// wildTree is a tree by a seed, of about so many operations.
func wildTree(r *rand.Rand, n int) x {
	names := []string{"a", "b", "u", "_1", "x9"}
	if n <= 1 {
		if r.Intn(2) == 0 {
			return ref(names[r.Intn(5)])
		}
		return num([]int64{0, 1, 2, 7, 8, 10, 1 << 62, 1<<63 - 1}[r.Intn(8)])
	}
	switch k := r.Intn(6); {
	case k == 0 || n == 2 && k%2 == 0:
		return signed(signs[r.Intn(4)], wildTree(r, n-1))
	case k == 1 || n == 2:
		return set(names[r.Intn(5)], setting[r.Intn(len(setting))], wildTree(r, n-1))
	case k == 2 && n > 3:
		a, b := 1+r.Intn(n-3), 1+r.Intn(n-3)
		return chosen(wildTree(r, a), wildTree(r, max(1, min(b, n-a-2))), wildTree(r, max(1, n-1-a-b)))
	}
	a := 1 + r.Intn(n-2)
	return both(wildTree(r, a), joining[r.Intn(len(joining))], wildTree(r, n-1-a))
}

// kind is how tightly an operation holds: 0 an assignment, 1 a choice, others their level and 1.
func kind(a x) int {
	switch {
	case slices.Contains(setting, a.op):
		return 0
	case a.op == "?":
		return 1
	case len(a.kids) == 2:
		return 1 + levelOf(a.op)
	}
	return 12
}

// sparse is a tree's text with just those brackets that it wants, and, by a seed, blanks, and brackets that it doesn't want.
func sparse(r *rand.Rand, a x, least int) string {
	blank := func() string { return []string{"", "", "", " ", "\n", "\t "}[r.Intn(6)] }
	s := ""
	switch is := kind(a); {
	case a.op == "#":
		s = strconv.FormatInt(a.num, 10)
	case a.op == "$":
		s = a.name
	case is == 0:
		s = a.name + blank() + a.op + " " + sparse(r, a.kids[0], 0)
	case is == 1:
		s = sparse(r, a.kids[0], 2) + blank() + "?" + blank() + sparse(r, a.kids[1], 0) + blank() + ":" + blank() + sparse(r, a.kids[2], 1)
	case is < 12:
		s = sparse(r, a.kids[0], is) + blank() + a.op + " " + sparse(r, a.kids[1], is+1)
	default:
		s = a.op[1:] + " " + sparse(r, a.kids[0], 12)
	}
	if kind(a) < least || r.Intn(40) == 0 {
		return "(" + blank() + s + blank() + ")"
	}
	return blank() + s + blank()
}

// P13.2: trees by seeds, written with just the brackets that they want, are read as they were.
func TestSparseBrackets(t *testing.T) {
	t.Parallel()
	g := grammar()
	fits := 0
	for seed := range int64(6000) {
		r := rand.New(rand.NewSource(seed))
		a := wildTree(r, 1+r.Intn(30))
		s := sparse(r, a, 0)
		err, deep := asTold(t, g, s)
		if err == api.OK {
			holds(t, s, a)
			fits++
		} else if err != api.ErrDeep || deep <= deepest {
			t.Fatalf("Parse(%s): %v", short(s), err)
		}
	}
	if fits < 4000 {
		t.Errorf("%d trees were read", fits)
	}
}

// P13.2, wrong inputs: such texts with one token less, one more, or another one.
func TestOneTokenWrong(t *testing.T) {
	t.Parallel()
	g := grammar()
	all := slices.Concat([]string{"1", "a", "?", ":", "(", ")", "!", "~", "(", ")", ":", "=", "09", "@"}, joining, setting)
	met := map[api.Errno]int{}
	for seed := range int64(8000) {
		r := rand.New(rand.NewSource(seed))
		s := sparse(r, wildTree(r, 1+r.Intn(20)), 0)
		tokens, _, _ := atok.Tokens(s)
		var texts []string
		for i, a := range tokens[:len(tokens)-1] {
			texts = append(texts, s[a.At:tokens[i+1].At])
		}
		for range 1 + r.Intn(2) {
			i := r.Intn(len(texts))
			switch one := " " + all[r.Intn(len(all))] + " "; r.Intn(3) {
			case 0:
				texts = slices.Insert(texts, i, one)
			case 1:
				texts[i] = one
			case 2:
				texts[i] = " "
			}
		}
		err, _ := asTold(t, g, strings.Join(texts, ""))
		met[err]++
	}
	if met[api.OK] < 500 || met[api.ErrSyntax] < 1000 || met[api.ErrNumber] < 100 {
		t.Errorf("errors met: %v", met)
	}
}

// deepText is an assignment by a seed, that goes down by so many things.
func deepText(r *rand.Rand, down int) string {
	for {
		switch k := r.Intn(9); {
		case down <= 3:
			return "1"
		case k == 0:
			return "a" + setting[r.Intn(len(setting))] + " " + deepText(r, down-1)
		case k == 1 && down > 5:
			return "1?" + deepText(r, down-2) + ":2"
		case k == 2 && down > 4:
			return "0?1:" + deepTerm(r, down-3)
		case k == 3 && down > 4:
			return deepTerm(r, 2) + joining[r.Intn(len(joining))] + " " + deepTerm(r, down-2)
		case k > 3:
			return deepTerm(r, down-2)
		}
	}
}

// deepTerm is a term of level 11 likewise.
func deepTerm(r *rand.Rand, down int) string {
	switch k := r.Intn(6); {
	case down <= 1:
		return "a"
	case k < 2 || down <= 3:
		return signs[r.Intn(4)] + " " + deepTerm(r, down-1)
	default:
		return "(" + deepText(r, down-1) + ")"
	}
}

// P13.2: deep texts by seeds, of brackets, signs, assignments and choices, about as deep as may be.
func TestDeepBySeeds(t *testing.T) {
	t.Parallel()
	g := grammar()
	met := map[int]int{}
	for seed := range int64(2500) {
		r := rand.New(rand.NewSource(seed))
		s := deepText(r, 58+r.Intn(12))
		if r.Intn(4) == 0 {
			s += "+ " + deepText(r, 60+r.Intn(8))
		}
		err, deep := asTold(t, g, s)
		if err == api.OK || err == api.ErrDeep {
			met[deep]++
		}
	}
	if met[deepest-1] < 50 || met[deepest] < 50 || met[deepest+1] < 50 || met[deepest+2] < 50 {
		t.Errorf("how deep: %v", met)
	}
}
