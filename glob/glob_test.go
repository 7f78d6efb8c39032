package glob_test

import (
	"math"
	"strconv"
	"strings"
	"testing"

	"windlass/api"
)

// small has files and directories at three depths, in two directories a file of the same name.
func small(t *testing.T) api.Tree {
	return build(t, "a", "b/", "b/c", "b/d/", "b/d/e", "d/", "d/c", "empty/", "x")
}

// The chapter's examples.
func TestExamples(t *testing.T) {
	s := build(t, "a", "b/", "b/c", ".d")
	hold(t, s, "*", "a", "b")
	hold(t, s, ".*", ".d")
	hold(t, s, "*/c", "b/c")
	hold(t, s, "x*")
}

// P11.1: where a pattern is cut, and what stands ahead of its paths and behind them.
func TestSlashes(t *testing.T) {
	s := small(t)
	for _, ahead := range []string{"/", "//", "///", `\/`, `/\/`, `\//`, `\/\/\/`} {
		hold(t, s, ahead+"*", "/a", "/b", "/d", "/empty", "/x")
		hold(t, s, ahead+"[bd]/*", "/b/c", "/b/d", "/d/c")
		hold(t, s, ahead+"b/*", "/b/c", "/b/d")
		holdFrom(t, s, "b", ahead+"?", "/a", "/b", "/d", "/x")
	}
	for _, behind := range []string{"/", "//", "///", `\/`, `/\/`, `\//`, `\/\/\/`} {
		hold(t, s, "*"+behind, "b/", "d/", "empty/")
		hold(t, s, "*/*"+behind, "b/d/")
		hold(t, s, "/?"+behind, "/b/", "/d/")
		hold(t, s, "?/d"+behind, "b/d/")
		hold(t, s, "?/c"+behind)
		hold(t, s, "?/."+behind, "b/./", "d/./")
		holdFrom(t, s, "b", "*"+behind, "d/")
	}
	for _, between := range []string{"/", "//", "////", `\/`, `/\/`, `\//`, `\/\/\/\/`} {
		hold(t, s, "*"+between+"*", "b/c", "b/d", "d/c")
		hold(t, s, "*"+between+"c", "b/c", "d/c")
		hold(t, s, "d"+between+"*", "d/c")
		hold(t, s, "*"+between+"*"+between+"*", "b/d/e")
		hold(t, s, between+"b"+between+"*"+between, "/b/d/")
	}
	hold(t, s, "*", "a", "b", "d", "empty", "x")
	holdFrom(t, s, "b", "*", "c", "d")
	holdFrom(t, s, "b/d", "*", "e")
	holdFrom(t, s, "empty", "*")
	holdFrom(t, s, "empty", "*/")
	holdFrom(t, s, "b", "*/*", "d/e")
	hold(t, s, "*/*/*/*")
	hold(t, s, "empty/*")
	hold(t, s, "b*/", "b/")
	hold(t, s, "a*/")
}

// P11.1: a pattern without Magic has no paths, be the path that it spells there or not.
func TestNoMagic(t *testing.T) {
	s := build(t, "a", "b/", "b/c", "*", "?", "[a]", "b/*", "]")
	for _, written := range []string{
		"", "/", "//", "////", `\/`, ".", "..", "./", "a", "b", "b/", "b/c", "/a", "/b/c", "//b//c", "nothing", "a/", "a/nothing", "b/.", "b/..",
		`\*`, `\?`, `\[a]`, `\[a\]`, `\/\*`, `b/\*`, `\*/\?`, "]", "!", "-", `\\`, "a]",
	} {
		hold(t, s, written)
		holdFrom(t, s, "b", written)
	}
	holdPat(t, s, 0, pat{"", "111"})
	holdPat(t, s, 0, pat{"/", "1111"})
	holdPat(t, s, 0, pat{"*", "1"})
	holdPat(t, s, 0, pat{"*", "11111"})
	holdPat(t, s, 0, pat{"b/*", "001"})
	holdPat(t, s, 0, pat{"b/*", "111"})
}

// P11.1: each part has the quoted bytes that are its own; quoted may be shorter than the pattern, and longer.
func TestQuoted(t *testing.T) {
	s := build(t, "*", "*x", "xx", "d/", "d/*", "d/*x", "d/xx", "*d/", "*d/*", "*d/y", "yd/", "yd/*", "yd/y")
	all, starred := []string{"*", "*d", "*x", "d", "xx", "yd"}, []string{"*", "*d", "*x"}
	for _, quoted := range []string{"1", "10", "100", "1011", "10111111111111"} {
		holdPat(t, s, 0, pat{"**", quoted}, starred...)
	}
	for _, quoted := range []string{"01", "011", "01000000"} {
		holdPat(t, s, 0, pat{"**", quoted}, "*")
	}
	for _, quoted := range []string{"", "0", "00", "000", "0011111", "2", "\x01", "l", "/", "\xff\xb1"} {
		holdPat(t, s, 0, pat{"**", quoted}, all...)
	}
	inD, inDStarred := []string{"d/*", "d/*x", "d/xx"}, []string{"d/*", "d/*x"}
	for _, quoted := range []string{"", "0", "1", "11", "110", "1100", "11001111", "010"} {
		holdPat(t, s, 0, pat{"d/**", quoted}, inD...)
	}
	for _, quoted := range []string{"001", "0010", "111", "1110", "00101", "0110"} {
		holdPat(t, s, 0, pat{"d/**", quoted}, inDStarred...)
	}
	// Behind parts that are left out as empty, too.
	for _, quoted := range []string{"00001", "000010", "11111", "1111100"} {
		holdPat(t, s, 0, pat{"d///**", quoted}, inDStarred...)
	}
	for _, quoted := range []string{"0000", "1111", "00100", "1111001"} {
		holdPat(t, s, 0, pat{"d///**", quoted}, inD...)
	}
	holdPat(t, s, 0, pat{"//**", "001"}, "/*", "/*d", "/*x")
	holdPat(t, s, 0, pat{"//**", "11"}, "/*", "/*d", "/*x", "/d", "/xx", "/yd")
	holdPat(t, s, 0, pat{"//**", "1"}, "/*", "/*d", "/*x", "/d", "/xx", "/yd")
	hold(t, s, "*d/*", "*d/*", "*d/y", "d/*", "d/*x", "d/xx", "yd/*", "yd/y")
	hold(t, s, `\*d/*`, "*d/*", "*d/y")
	hold(t, s, `*d/\*`, "*d/*", "d/*", "yd/*")
	hold(t, s, `*d/\**`, "*d/*", "d/*", "d/*x", "yd/*")
	hold(t, s, `?d/\*`, "*d/*", "yd/*")
	hold(t, s, `\?d/*`)
	hold(t, s, `[\*]d/*`, "*d/*", "*d/y")
	hold(t, s, `\*d//?`, "*d/*", "*d/y")
	hold(t, s, `?d//\*//`)
}

// P11.1: parts without Magic ahead of one with Magic, behind it, and between two.
func TestPartsWithoutMagic(t *testing.T) {
	s := small(t)
	hold(t, s, "b/*", "b/c", "b/d")
	hold(t, s, "b/d/*", "b/d/e")
	hold(t, s, "/b/d/?", "/b/d/e")
	hold(t, s, "nothing/*")
	hold(t, s, "/nothing/*")
	hold(t, s, "b/nothing/*")
	hold(t, s, "nothing/b/*")
	hold(t, s, "nothing/../*")
	hold(t, s, "a/*")
	hold(t, s, "b/c/*")
	hold(t, s, "a/../*")
	hold(t, s, "*/c", "b/c", "d/c")
	hold(t, s, "*/d", "b/d")
	hold(t, s, "*/d/", "b/d/")
	hold(t, s, "*/nothing")
	hold(t, s, "*/d/e", "b/d/e")
	hold(t, s, "*/d/nothing")
	hold(t, s, "*/c/e")
	hold(t, s, "*/d/*", "b/d/e")
	hold(t, s, "*/d/?/")
	hold(t, s, "?/d/*/*")
	hold(t, s, "*/c/*")
	hold(t, s, "*/nothing/*")
	hold(t, s, "*/b/*")
	// A name that has Magic's bytes, quoted, is asked for as it is.
	hold(t, build(t, "*/", "*/a", "b/", "b/a", "b/*"), `\*/?`, "*/a")
	hold(t, build(t, "*/", "*/a", "b/", "b/a", "b/*"), `?/\*`, "b/*")
}

// P11.1: . and .. as parts are names as any others that are there.
func TestDotParts(t *testing.T) {
	s := small(t)
	hold(t, s, "./*", "./a", "./b", "./d", "./empty", "./x")
	hold(t, s, "././?", "././a", "././b", "././d", "././x")
	hold(t, s, "../?", "../a", "../b", "../d", "../x")
	hold(t, s, "/../?/c", "/../b/c", "/../d/c")
	holdFrom(t, s, "b/d", "../*", "../c", "../d")
	holdFrom(t, s, "b/d", "../../*/c", "../../b/c", "../../d/c")
	holdFrom(t, s, "b", "./d/../*", "./d/../c", "./d/../d")
	hold(t, s, "*/.", "b/.", "d/.", "empty/.")
	hold(t, s, "*/./", "b/./", "d/./", "empty/./")
	hold(t, s, "?/..", "b/..", "d/..")
	hold(t, s, "b/*/..", "b/d/..")
	hold(t, s, "*/./c", "b/./c", "d/./c")
	hold(t, s, "?/../a", "b/../a", "d/../a")
	hold(t, s, "b/?/../*", "b/d/../c", "b/d/../d")
	hold(t, s, `\./?/c`, "./b/c", "./d/c")
	hold(t, s, `.\./?/c`, "../b/c", "../d/c")
	// A file is no way to . or .., whatever is behind.
	hold(t, s, "[ab]/.", "b/.")
	hold(t, s, "a/./*")
	hold(t, s, "[a]/../*")
}

// P11.1: a set whose [ and ] stand in two parts is none.
func TestSetsOfTwoParts(t *testing.T) {
	s := build(t, "a", "b", "ab", "[a/", "[a/b]", "[a/b", "x[/", "x[/]y", "[/", "[/]", "[!/", "[!/]", "[[:alpha:/", "[[:alpha:/a]")
	hold(t, s, "[a/b]", "[a/b]")
	hold(t, s, "[a//b]", "[a/b]")
	hold(t, s, `[a\/b]`, "[a/b]")
	hold(t, s, "[a/b*", "[a/b", "[a/b]")
	hold(t, s, "x[/]y", "x[/]y")
	hold(t, s, "x[/]*", "x[/]y")
	hold(t, s, "[/]", "[/]")
	hold(t, s, "[!/]", "[!/]")
	hold(t, s, "[a-/z]")
	hold(t, s, "[[:alpha:/a]", "[[:alpha:/a]")
	hold(t, s, "/[a/b]", "/[a/b]")
	hold(t, s, "/[a/b]/")
	hold(t, build(t, "a", "b", "ab"), "[a/b]")
	hold(t, build(t, "a/", "a/b", "a/]"), "[a/]")
	hold(t, build(t, "a/", "a/b", "a/c"), "[a]/[b]", "a/b")
}

// P11.1: names that begin with . are told just of a part whose first byte is one.
func TestDotNames(t *testing.T) {
	s := build(t, "a", "a.b", ".h", ".hh", "..x", "...", ".g/", ".g/x", ".g/.y", "b/", "b/.k", "b/k", "b/.s/", "b/.s/z")
	hold(t, s, "*", "a", "a.b", "b")
	hold(t, s, "?h")
	hold(t, s, "??")
	hold(t, s, "[.]h")
	hold(t, s, "[.a]*", "a", "a.b")
	hold(t, s, "[!b]*", "a", "a.b")
	hold(t, s, "[--/]h")
	hold(t, s, "[[:punct:]]*")
	hold(t, s, "*h")
	hold(t, s, "*.*", "a.b")
	hold(t, s, "?.b", "a.b")
	hold(t, s, ".*", "...", "..x", ".g", ".h", ".hh")
	hold(t, s, `\.*`, "...", "..x", ".g", ".h", ".hh")
	hold(t, s, ".?", ".g", ".h")
	hold(t, s, `\.?`, ".g", ".h")
	hold(t, s, ".[gh]", ".g", ".h")
	hold(t, s, ".[!.]*", ".g", ".h", ".hh")
	hold(t, s, ".[!.]", ".g", ".h")
	hold(t, s, "..*", "...", "..x")
	hold(t, s, `.\.*`, "...", "..x")
	hold(t, s, ".[.]*", "...", "..x")
	hold(t, s, "..?", "...", "..x")
	hold(t, s, "...*", "...")
	hold(t, s, ".h*", ".h", ".hh")
	hold(t, s, ".*/", ".g/")
	hold(t, s, ".*/*", ".g/x")
	hold(t, s, ".*/.*", ".g/.y")
	hold(t, s, "*/.*", "b/.k", "b/.s")
	hold(t, s, "*/*", "b/k")
	hold(t, s, "*/.s/*", "b/.s/z")
	hold(t, s, ".g/*", ".g/x")
	hold(t, s, ".g/.*", ".g/.y")
	hold(t, s, "/.*", "/...", "/..x", "/.g", "/.h", "/.hh")
	hold(t, s, "/*", "/a", "/a.b", "/b")
	hold(t, s, "./.?", "./.g", "./.h")
	hold(t, s, "b/../.?", "b/../.g", "b/../.h")
	hold(t, s, "b/*", "b/k")
	holdFrom(t, s, "b", "*", "k")
	holdFrom(t, s, "b", ".*", ".k", ".s")
	// . and .. are in no directory.
	bare := build(t, "d/", "d/e/")
	for _, written := range []string{".*", ".?", `.[\.]`, ".*/", "..*", ".*/*", "d/.*", "d/e/.*/", "*/.*", "*/..*"} {
		hold(t, bare, written)
	}
}

// P11.1: names of any bytes, of one and of 64 of them; a ? is one byte.
func TestNames(t *testing.T) {
	long := strings.Repeat("n", 64)
	s := build(t, "\x01", " ", "\n", "A", "a", "\x7f", "\x80", "é", "\xc3", "\xff", "\xff\xff", "\\", long, "d/", "d/\xfe", "d/"+long[1:])
	hold(t, s, "?", "\x01", "\n", " ", "A", "\\", "a", "d", "\x7f", "\x80", "\xc3", "\xff")
	hold(t, s, "??", "é", "\xff\xff")
	hold(t, s, "[\x80-\xff]", "\x80", "\xc3", "\xff")
	hold(t, s, "[é]", "\xc3")
	hold(t, s, "\xff*", "\xff", "\xff\xff")
	hold(t, s, "\xc3?", "é")
	hold(t, s, "*/?", "d/\xfe")
	hold(t, s, "[[:cntrl:]]", "\x01", "\n", "\x7f")
	hold(t, s, "[[:upper:]]", "A")
	hold(t, s, `\\*`, `\`)
	hold(t, s, "nn*", long)
	hold(t, s, "*/n*", "d/"+long[1:])
	hold(t, s, strings.Repeat("?", 64), long)
	hold(t, s, strings.Repeat("?", 65))
	hold(t, s, strings.Repeat("?", 63))
	hold(t, s, "*/"+long[1:], "d/"+long[1:])
	hold(t, s, "*/"+long+"n")
	hold(t, s, long+"n/*")
	hold(t, s, "*\x00")
	hold(t, s, "*/\x00")
	hold(t, s, "[!\x00]", "\x01", "\n", " ", "A", "\\", "a", "d", "\x7f", "\x80", "\xc3", "\xff")
}

// P11.1: paths rise byte by byte, which parts one behind the other don't.
func TestRising(t *testing.T) {
	var lines []string
	for _, name := range []string{"a", "a ", "a!", "a-", "a.", "a0", "aa", "A", "B", "b", "b\x01", "b\xff", "\x80"} {
		lines = append(lines, name+"/", name+"/x", name+"/x-", name+"/xx/")
	}
	s := build(t, lines...)
	hold(t, s, "*", "A", "B", "a", "a ", "a!", "a-", "a.", "a0", "aa", "b", "b\x01", "b\xff", "\x80")
	hold(t, s, "*/", "A/", "B/", "a /", "a!/", "a-/", "a./", "a/", "a0/", "aa/", "b\x01/", "b/", "b\xff/", "\x80/")
	hold(t, s, "a*/x", "a /x", "a!/x", "a-/x", "a./x", "a/x", "a0/x", "aa/x")
	hold(t, s, "a?/x*", "a /x", "a /x-", "a /xx", "a!/x", "a!/x-", "a!/xx", "a-/x", "a-/x-", "a-/xx", "a./x", "a./x-", "a./xx", "a0/x", "a0/x-", "a0/xx", "aa/x", "aa/x-", "aa/xx")
	hold(t, s, "b*/x?", "b\x01/x-", "b\x01/xx", "b/x-", "b/xx", "b\xff/x-", "b\xff/xx")
	hold(t, s, "/b*/xx/", "/b\x01/xx/", "/b/xx/", "/b\xff/xx/")
	hold(t, s, "a*/xx/.", "a /xx/.", "a!/xx/.", "a-/xx/.", "a./xx/.", "a/xx/.", "a0/xx/.", "aa/xx/.")
}

// P11.1: from a cwd that is no directory, or not there, no pattern has paths.
func TestCwd(t *testing.T) {
	s := build(t, "a", "b/", "b/c", "l -> b", "n -> nothing")
	free := len(s.Nodes) - 1
	for _, cwd := range []int{at(s, "a"), at(s, "b/c"), at(s, "l"), at(s, "n"), free, len(s.Nodes), -1, math.MinInt, math.MaxInt} {
		for _, written := range []string{"*", "/*", "*/", "/*/", "*/*", "/b/*", "b/*", "./*", "../*", "/../*", "[b]", "/[b]/c", ".*"} {
			holdPat(t, s, cwd, of(written))
		}
	}
	for cwd, want := range map[int][]string{0: {"a", "b", "l", "n"}, at(s, "b"): {"c"}} {
		holdPat(t, s, cwd, plain("*"), want...)
		holdPat(t, s, cwd, plain("/b/*"), "/b/c")
	}
	// Where the root is the directory of others, a pattern from it on hangs on no cwd.
	deep := small(t)
	for _, cwd := range []string{"/", "b", "b/d", "empty"} {
		holdFrom(t, deep, cwd, "/*/c", "/b/c", "/d/c")
	}
}

// P11.1: many directories, many names, deep ones.
func TestManyShapes(t *testing.T) {
	var lines, want, ends []string
	for i := range 40 {
		name := "d" + strconv.Itoa(10+i)
		lines = append(lines, name+"/", name+"/a", name+"/b", name+"/c/")
		want = append(want, name+"/a", name+"/b", name+"/c")
		ends = append(ends, name+"/c/")
	}
	s := build(t, lines...)
	hold(t, s, "*/*", want...)
	hold(t, s, "*/*/", ends...)
	hold(t, s, "d[0-9][0-9]/[a-c]", want...)
	hold(t, s, "d1[12]/[!b]", "d11/a", "d11/c", "d12/a", "d12/c")
	hold(t, s, "*0/?/..", "d10/c/..", "d20/c/..", "d30/c/..", "d40/c/..")
	hold(t, s, "?9/*")
	hold(t, s, "*49/*", "d49/a", "d49/b", "d49/c")
}
