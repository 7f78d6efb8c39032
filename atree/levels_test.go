package atree_test

import (
	"slices"
	"testing"
)

// levelOf is the level of an operator that stands between two terms.
func levelOf(op string) int {
	return 1 + slices.IndexFunc(byLevel, func(l []string) bool { return slices.Contains(l, op) })
}

// P13.2: each operator of each level alone between two numbers, two names, and with blanks.
func TestOperatorsAlone(t *testing.T) {
	t.Parallel()
	if len(joining) != 18 || len(byLevel) != 10 || levelOf("||") != 1 || levelOf("%") != 10 {
		t.Fatalf("%d operators, %d levels", len(joining), len(byLevel))
	}
	for _, op := range joining {
		holds(t, "1"+op+"2", both(num(1), op, num(2)))
		holds(t, "2 "+op+"\n1", both(num(2), op, num(1)))
		holds(t, "a"+op+"b", both(ref("a"), op, ref("b")))
		holds(t, "(1"+op+"a)", both(num(1), op, ref("a")))
	}
}

// P13.2: of each pair of operators the first is gathered first, if it is of the same level, or of a higher one; else the second is within it.
func TestPairsOfOperators(t *testing.T) {
	t.Parallel()
	met := map[string]int{}
	for _, p := range joining {
		for _, q := range joining {
			first := both(both(num(1), p, num(2)), q, num(3))
			second := both(num(1), p, both(num(2), q, num(3)))
			if levelOf(p) >= levelOf(q) {
				holds(t, "1"+p+"2"+q+"3", first)
				met["first"]++
			} else {
				holds(t, "1"+p+"2"+q+"3", second)
				met["second"]++
			}
			holds(t, "(1"+p+"2)"+q+"3", first)
			holds(t, "1"+p+"(2"+q+"3)", second)
		}
	}
	if met["first"] != 183 || met["second"] != 141 {
		t.Errorf("pairs met: %v", met)
	}
}

// gathered is a row of terms with operators between, told another way: the last operator of the lowest level parts it.
func gathered(terms []x, ops []string) x {
	if len(ops) == 0 {
		return terms[0]
	}
	best := 0
	for i, op := range ops {
		if levelOf(op) <= levelOf(ops[best]) {
			best = i
		}
	}
	return both(gathered(terms[:best+1], ops[:best]), ops[best], gathered(terms[best+1:], ops[best+1:]))
}

// P13.2: threes of operators, and long rows of them.
func TestThreesOfOperators(t *testing.T) {
	t.Parallel()
	one := []x{num(1), num(2), num(3), ref("a")}
	for _, p := range joining {
		for _, q := range joining {
			for _, r := range joining {
				holds(t, "1"+p+"2"+q+"3"+r+"a", gathered(one, []string{p, q, r}))
			}
		}
	}
	for turn := range joining {
		var terms []x
		var ops []string
		s := ""
		for i := range 100 {
			op := joining[(i*i+7*i*turn+turn)%len(joining)]
			terms, ops = append(terms, num(int64(turn+1))), append(ops, op)
			s += "0" + string(rune('0'+(turn+1)/8)) + string(rune('0'+(turn+1)%8)) + op
		}
		holds(t, s+"b", gathered(append(terms, ref("b")), ops))
	}
}

// P13.2: many of one level gather from the left.
func TestGathersFromTheLeft(t *testing.T) {
	t.Parallel()
	for _, ops := range byLevel {
		s, want := "a", ref("a")
		for i := range 400 {
			op := ops[i%len(ops)]
			s += op + "1"
			want = both(want, op, num(1))
		}
		holds(t, s, want)
	}
}

// P13.2: + - ! ~ ahead of a number, a name, brackets.
func TestSigns(t *testing.T) {
	t.Parallel()
	for _, op := range signs {
		holds(t, op+"1", signed(op, num(1)))
		holds(t, op+" 0", signed(op, num(0)))
		holds(t, op+"a", signed(op, ref("a")))
		holds(t, op+"(1)", signed(op, num(1)))
		holds(t, op+"(a+1)", signed(op, both(ref("a"), "+", num(1))))
		holds(t, op+"(a=1)", signed(op, set("a", "=", num(1))))
		holds(t, op+"(a?1:2)", signed(op, chosen(ref("a"), num(1), num(2))))
		holds(t, "("+op+"1)", signed(op, num(1)))
		holds(t, op+"a?"+op+"b:"+op+"c", chosen(signed(op, ref("a")), signed(op, ref("b")), signed(op, ref("c"))))
		for _, to := range setting {
			holds(t, "a"+to+" "+op+"1", set("a", to, signed(op, num(1))))
		}
	}
}

// P13.2: a sign holds more tightly than every operator between two terms.
func TestSignsBesideOperators(t *testing.T) {
	t.Parallel()
	for _, s := range signs {
		for _, op := range joining {
			holds(t, s+"1"+op+"2", both(signed(s, num(1)), op, num(2)))
			holds(t, "1"+op+" "+s+"2", both(num(1), op, signed(s, num(2))))
			holds(t, s+"1"+op+" "+s+"2", both(signed(s, num(1)), op, signed(s, num(2))))
			holds(t, s+"(1"+op+"2)", signed(s, both(num(1), op, num(2))))
		}
	}
}

// P13.2: signs ahead of one another, each of them, up to four.
func TestSignsAheadOfSigns(t *testing.T) {
	t.Parallel()
	for _, a := range signs {
		for _, b := range signs {
			holds(t, a+b+"1", signed(a, signed(b, num(1))))
			holds(t, a+"("+b+"a)", signed(a, signed(b, ref("a"))))
			for _, c := range signs {
				holds(t, a+b+c+"a", signed(a, signed(b, signed(c, ref("a")))))
				holds(t, "1-"+a+b+c+"2", both(num(1), "-", signed(a, signed(b, signed(c, num(2))))))
				for _, d := range signs {
					holds(t, a+b+" "+c+d+"(a)", signed(a, signed(b, signed(c, signed(d, ref("a"))))))
				}
			}
		}
	}
}
