package chars

// member tells whether a byte is of a class.
type member func(c byte) bool

// classes is the table of the classes by their names. A function makes it, since a table of functions may not stand at package level.
func classes() map[string]member {
	upper, lower := span('A', 'Z'), span('a', 'z')
	alpha := either(upper, lower)
	alnum := either(alpha, Digit)
	graph := span(33, 126)
	return map[string]member{
		"alpha":  alpha,
		"digit":  Digit,
		"alnum":  alnum,
		"upper":  upper,
		"lower":  lower,
		"space":  either(span(9, 13), span(32, 32)),
		"blank":  Blank,
		"punct":  func(c byte) bool { return graph(c) && !alnum(c) },
		"print":  span(32, 126),
		"graph":  graph,
		"cntrl":  either(span(0, 31), span(127, 127)),
		"xdigit": either(Digit, either(span('A', 'F'), span('a', 'f'))),
	}
}

// span is the class of the bytes from first to last.
func span(first, last byte) member {
	return func(c byte) bool { return first <= c && c <= last }
}

// either is the class of the bytes that are of one of two classes.
func either(a, b member) member {
	return func(c byte) bool { return a(c) || b(c) }
}
