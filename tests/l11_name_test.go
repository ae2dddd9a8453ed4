package tests

import (
	"regexp"
	"strings"
	"testing"

	"loop.example/g00098/impl"
)

// The forms are a second way to tell what names and patterns are, and what matches.
var (
	nameForm    = regexp.MustCompile(`\A[a-z0-9]+(\.[a-z0-9]+)*\z`)
	patternForm = regexp.MustCompile(`\A(([a-z0-9]+|\*)\.)*([a-z0-9]+|\*|>)\z`)
)

func nameIsRight(s string) bool { return len(s) <= 24 && nameForm.MatchString(s) }

func patternIsRight(s string) bool { return len(s) <= 24 && patternForm.MatchString(s) }

// matcherOf makes the pattern a form of its own.
func matcherOf(pattern string) func(name string) bool {
	if !patternIsRight(pattern) {
		return func(string) bool { return false }
	}
	form := strings.NewReplacer(".", `\.`, "*", `[^.]+`, ">", `.+`).Replace(pattern)
	exp := regexp.MustCompile(`\A` + form + `\z`)
	return func(name string) bool { return nameIsRight(name) && exp.MatchString(name) }
}

// rightNames has no two alike.
func rightNames() []string {
	return []string{
		"a", "z", "m", "0", "9", "5", "az", "x1", "1x", "09", "a.b", "a.a", "z.9", "0.0", "a.b.c", "ab.c", "a.bc", "abc", "a.b.c.d", "one.two.three.four",
		strings.Repeat("a", 23), strings.Repeat("a", 24), strings.Repeat("9", 24), strings.Repeat("b", 22) + ".c", "c." + strings.Repeat("b", 22), strings.Repeat("a.", 11) + "a", strings.Repeat("a.", 11) + "ab", strings.Repeat("0.", 11) + "00", "0123456789.0123456789.01", "abcdefghijklmnopqrstuvwx", "yz.0123456789",
	}
}

// rightPatterns are no names.
func rightPatterns() []string {
	return []string{
		"*", ">", "*.*", "*.>", "a.*", "*.a", "a.>", "9.*", "*.0", "a.*.b", "*.a.*", "*.*.a", "a.*.*", "a.*.>", "a.b.>", "*.a.>", "*.*.*", "*.*.>", "*.x1.*.9z.>",
		strings.Repeat("a", 22) + ".*", strings.Repeat("a", 22) + ".>", "*." + strings.Repeat("a", 22), strings.Repeat("*.", 11) + "*", strings.Repeat("*.", 11) + ">", strings.Repeat("*.", 11) + "aa", "aa." + strings.Repeat("*.", 10) + ">", "aa." + strings.Repeat("*.", 10) + "*",
	}
}

// wrongTexts are neither names nor patterns.
func wrongTexts() []string {
	list := []string{
		"", ".", "..", "...", "a.", ".a", "a..b", "a...b", ".a.", ".a.b", "a.b.", "a..", "..a",
		"*.", ".*", "*..*", ">.", ".>", ".*.", "..>", "a..>", "a..*", "*.*.", "*.>.",
		">.a", ">.>", ">.*", "a.>.b", "a.>.>", "*.>.*", ">.a.b", ">.b.>", "a.b.>.c",
		"a>", ">a", "a*", "*a", "**", ">>", "*>", ">*", "a*b", "a>b", "a.b*", "a.*b", "a.b>", "a.>b", "a*.b", "*a.b", "a>.b", ">a.b", "a.**", "a.>>", "**.a", "a.*>", "a.>*", "0*", "9>", "***",
		"A", "Z", "aB", "Ba", "A.b", "a.B", "a.bC", "*.A", "A.>", " ", "a b", "a. b", "a .b", " a", "a ", "* ", " *", "> ", " >", "*. ", "_", "a_b", "a._", "_.>", "-", "-1", "a-b", "a.-1", "+", "/", ":", "`", "{", "@", "[", "?", "#", "a,b", "a.b,c", "a/b", "a:b", "\"a\"", "a\"", "'a'", "a.b;", "~", "^a", "$",
		"\x00", "a\x00", "\n", "a\n", "\na", "a.b\n", "*\n", ">\n", "a\n.b", "\t", "a\tb", "\r", "\x1f", "\x7f", "\x80", "a\x80", "\xff", "a.\xff", "\xff.>", "é", "a.é", "ａ", "\u0660", "\u00e1", "a\u00a0b", "\ufeffa", "a\u2024b",
		strings.Repeat("a", 24) + ".", "." + strings.Repeat("a", 23), strings.Repeat("a.", 12),
	}
	for _, n := range []int{25, 26, 48, 49, 256, 257, 280, 100000} {
		list = append(list, strings.Repeat("a", n), strings.Repeat("a", n-2)+".b", strings.Repeat("a", n-2)+".*", strings.Repeat("a", n-2)+".>", "*."+strings.Repeat("b", n-2), strings.Repeat("*", n), strings.Repeat(".", n), strings.Repeat(">", n), strings.Repeat("a.", n/2)+"a", strings.Repeat("*.", n/2)+">", strings.Repeat("é", n))
	}
	return list
}

func TestTopicConstants(t *testing.T) {
	if impl.MaxTopics != 12 || impl.MaxName != 24 {
		t.Error("constants", impl.MaxTopics, impl.MaxName)
	}
}

// TestNamesByHand has its answers written out: each name is a pattern too.
func TestNamesByHand(t *testing.T) {
	check := func(list []string, name bool, pattern bool) {
		for _, s := range list {
			if impl.NameOk(s) != name {
				t.Errorf("NameOk(%.60q), %d bytes: %v", s, len(s), !name)
			}
			if impl.PatternOk(s) != pattern {
				t.Errorf("PatternOk(%.60q), %d bytes: %v", s, len(s), !pattern)
			}
		}
	}
	check(rightNames(), true, true)
	check(rightPatterns(), false, true)
	check(wrongTexts(), false, false)
}

func checkName(t *testing.T, s string) {
	t.Helper()
	if ok := impl.NameOk(s); ok != nameIsRight(s) {
		t.Fatalf("NameOk(%q) = %v", s, ok)
	}
	if ok := impl.PatternOk(s); ok != patternIsRight(s) {
		t.Fatalf("PatternOk(%q) = %v", s, ok)
	}
}

func TestEveryShortName(t *testing.T) {
	names, patterns := 0, 0
	eachText([]string{"a", "9", ".", "*", ">", "A", "\x80"}, 6, func(s string) {
		checkName(t, s)
		if impl.NameOk(s) {
			names++
		}
		if impl.PatternOk(s) {
			patterns++
		}
	})
	// A name of n bytes has one of n-1 behind its first byte, or a point and one of n-2. A pattern of n bytes is one part, or has one of n-1-k behind a first part of k bytes and a point; there are 2^k such parts, at k = 1 one more, and two more where it is the last one.
	if names != 2+4+12+32+88+240 || patterns != 4+4+20+44+140+372 {
		t.Error("how many", names, patterns)
	}
}

// TestEachByteOfAName puts each byte in the place of each byte of a right text, and between each two.
func TestEachByteOfAName(t *testing.T) {
	for _, s := range []string{"m", "ab", "a.b", "x1.y2.z3", "*", ">", "*.*", "a.*.b", "a.>", "*.>", strings.Repeat("a", 23), strings.Repeat("a", 24), strings.Repeat("a.", 11) + "aa", strings.Repeat("*.", 11) + ">"} {
		for at := range len(s) + 1 {
			for b := range 256 {
				checkName(t, s[:at]+string([]byte{byte(b)})+s[at:])
				if at < len(s) {
					checkName(t, s[:at]+string([]byte{byte(b)})+s[at+1:])
				}
			}
			checkName(t, s[:at])
			checkName(t, s[at:])
		}
	}
}

// TestNamesOfEachLength has parts of each length, with what else there is of 24 bytes in one part or in many.
func TestNamesOfEachLength(t *testing.T) {
	for n := range 60 {
		for at := range n + 1 {
			part, rest := strings.Repeat("k", at), strings.Repeat("7", n-at)
			for _, s := range []string{part + rest, part + "." + rest, part + ".*." + rest, part + ".>", "*." + part, part + strings.Repeat(".a", n-at), part + strings.Repeat(".*", n-at), part + strings.Repeat(".*", n-at) + ".>"} {
				checkName(t, s)
			}
		}
		if s := strings.Repeat("k", n); impl.NameOk(s) != (1 <= n && n <= 24) || impl.PatternOk(s) != (1 <= n && n <= 24) {
			t.Error("length", n)
		}
	}
}

func TestMatchesByHand(t *testing.T) {
	most, more := strings.Repeat("a", 24), strings.Repeat("a", 25)
	rows := strings.Repeat("a.", 11) + "a"
	for _, x := range []struct {
		pattern string
		match   []string
		other   []string
	}{
		{"a", []string{"a"}, []string{"b", "aa", "ab", "ba", "a.a", "a.b", "b.a", "0", "A", "", "a.", ".a", "*", ">"}},
		{"a.b", []string{"a.b"}, []string{"a", "b", "ab", "a.c", "c.b", "b.a", "a.bb", "aa.b", "a.b.c", "a.a.b", "a.b.b", "a..b", "a.b.", "a.*", "a.>"}},
		{"ab", []string{"ab"}, []string{"a", "b", "abc", "a.b", "ab.c", "ab.ab"}},
		{"*", []string{"a", "b", "0", "abc", most}, []string{"a.b", "a.b.c", rows, "", ".", "*", ">", "A", "a.", ".a", more}},
		{"*.*", []string{"a.b", "a.a", "0.9", "abc.d"}, []string{"a", "a.b.c", "a.b.c.d", "a.", ".a", ".", "*.*", "a.*"}},
		{"a.*", []string{"a.b", "a.a", "a.abc", "a.0"}, []string{"a", "b", "a.b.c", "b.a", "ab.c", "aa.b", "a.", "a..b", "a.*", "a.>"}},
		{"*.a", []string{"a.a", "b.a", "abc.a"}, []string{"a", "b.b", "b.a.a", "b.b.a", "a.b", "b.aa", "b.ba", "b.ab", ".a"}},
		{"*.*.*", []string{"a.b.c", "a.a.a"}, []string{"a", "a.b", "a.b.c.d"}},
		{"a.*.c", []string{"a.b.c", "a.a.c", "a.c.c", "a.xyz.c"}, []string{"a.c", "a.b.b.c", "a.b.c.c", "a.b", "a.b.d", "b.b.c", "a.b.cc", "a..c"}},
		{"*.b.*", []string{"a.b.c", "b.b.b"}, []string{"b", "a.b", "b.c", "a.b.c.d", "a.c.b", "a.a.b.c", "a.bb.c"}},
		{">", []string{"a", "0", "a.b", "a.b.c", rows, most}, []string{"", ".", "a.", ".a", "a..b", "A", "a b", "*", ">", "a.*", "a.>", more}},
		{"a.>", []string{"a.b", "a.a", "a.b.c", "a.b.c.d", rows}, []string{"a", "b", "b.a", "ab.c", "aa", "aa.b", "b.a.c", "a.", "a..b", "a.>", "a.*"}},
		{"a.b.>", []string{"a.b.c", "a.b.c.d", "a.b.b"}, []string{"a", "a.b", "a.c.b", "b.a.c", "a.bb.c", "ab.c.d"}},
		{"*.>", []string{"a.b", "a.b.c", rows}, []string{"a", "abc", most, ""}},
		{"*.*.>", []string{"a.b.c", "a.b.c.d"}, []string{"a", "a.b"}},
		{"*.b.>", []string{"a.b.c", "b.b.b.b"}, []string{"a.b", "b.c", "a.c.b", "a.c.b.d"}},
		{most, []string{most}, []string{more, most[1:], "a"}},
		{rows, []string{rows}, []string{rows + "a", rows[2:], "a"}},
		{strings.Repeat("*.", 11) + "*", []string{rows, rows + "a"}, []string{rows[2:], rows + ".a"}},
		{strings.Repeat("*.", 11) + ">", []string{rows, rows + "a"}, []string{rows[2:], rows + ".a"}},
		{strings.Repeat("*.", 10) + ">", []string{rows, rows[2:]}, []string{rows[4:], rows + ".a"}},
		{strings.Repeat("*.", 11) + "a", []string{rows}, []string{rows + "a", rows[2:]}},
	} {
		for _, name := range x.match {
			if !impl.Matches(name, x.pattern) {
				t.Errorf("%q does not match %q", name, x.pattern)
			}
		}
		for _, name := range x.other {
			if impl.Matches(name, x.pattern) {
				t.Errorf("%q matches %q", name, x.pattern)
			}
		}
	}
}

// TestNothingMatchesAWrongPattern has its answers written out: also a wrong name does not match, be it the pattern itself.
func TestNothingMatchesAWrongPattern(t *testing.T) {
	wrong := wrongTexts()
	for _, s := range wrong {
		for _, name := range append(rightNames(), s, "") {
			if impl.Matches(name, s) {
				t.Fatalf("%.60q matches %.60q", name, s)
			}
		}
		for _, pattern := range append(rightPatterns(), s, "a") {
			if impl.Matches(s, pattern) {
				t.Fatalf("%.60q matches %.60q", s, pattern)
			}
		}
	}
	for _, s := range rightPatterns() {
		for _, pattern := range append(rightPatterns(), rightNames()...) {
			if impl.Matches(s, pattern) {
				t.Fatalf("%q, which is no name, matches %q", s, pattern)
			}
		}
	}
}

func checkMatches(t *testing.T, names []string, patterns []string) int {
	t.Helper()
	count := 0
	for _, pattern := range patterns {
		matches := matcherOf(pattern)
		for _, name := range names {
			got := impl.Matches(name, pattern)
			if got != matches(name) {
				t.Fatalf("Matches(%q, %q) = %v", name, pattern, got)
			}
			if got {
				count++
			}
		}
	}
	return count
}

// textsOf are all texts of at most n of those pieces.
func textsOf(n int, pieces ...string) []string {
	var list []string
	eachText(pieces, n, func(s string) { list = append(list, s) })
	return list
}

// rowsOf are all rows of at most n of those parts, with points between.
func rowsOf(n int, parts ...string) []string {
	var list []string
	eachList(parts, n, func(row []string) { list = append(list, strings.Join(row, ".")) })
	return list
}

// TestEveryShortMatch goes through all short texts, right and wrong.
func TestEveryShortMatch(t *testing.T) {
	if n := checkMatches(t, textsOf(5, "a", "b", "."), textsOf(5, "a", ".", "*", ">")); n < 200 {
		t.Error("too few match", n)
	}
	if n := checkMatches(t, textsOf(4, "a", ".", "*", ">"), textsOf(4, "a", ".", "*", ">")); n < 30 {
		t.Error("too few match", n)
	}
}

// TestMatchesPartByPart has parts of which one begins or ends the other, and signs at each place, right and wrong.
func TestMatchesPartByPart(t *testing.T) {
	if n := checkMatches(t, rowsOf(4, "a", "ab", "b", "0"), rowsOf(4, "a", "ab", "*", ">", "b")); n < 2000 {
		t.Error("too few match", n)
	}
	long := append(rowsOf(12, "a"), rowsOf(8, "ab")...)
	checkMatches(t, long, append(rowsOf(12, "*"), long...))
	for _, s := range rowsOf(12, "*") {
		checkMatches(t, long, []string{s + ".>", s + ".a", "a." + s, s + ".ab.>"})
	}
}

// TestANameMatchesItselfAlone is what follows: of all names each matches itself and `>`, and as a pattern that name alone.
func TestANameMatchesItselfAlone(t *testing.T) {
	var names []string
	for _, s := range append(textsOf(5, "a", "b", "0", "."), rightNames()...) {
		if impl.NameOk(s) {
			names = append(names, s)
		}
	}
	if len(names) < 500 {
		t.Fatal("too few names", len(names))
	}
	for _, name := range names {
		if !impl.PatternOk(name) || !impl.Matches(name, ">") {
			t.Fatalf("%q is no pattern, or does not match all", name)
		}
		for _, other := range names {
			if impl.Matches(other, name) != (other == name) {
				t.Fatalf("Matches(%q, %q)", other, name)
			}
		}
	}
}

func partsIn(s string) int { return strings.Count(s, ".") + 1 }

// TestWhatMatchesHasAsManyParts is what follows for `*`, which is one part, and for `>`, which is one or more.
func TestWhatMatchesHasAsManyParts(t *testing.T) {
	names := append(rowsOf(5, "a", "ab", "0"), rightNames()...)
	patterns := append(rowsOf(4, "a", "ab", "*", ">"), rightPatterns()...)
	for _, pattern := range patterns {
		rest := strings.HasSuffix(pattern, ">")
		for _, name := range names {
			if !impl.Matches(name, pattern) {
				continue
			}
			if n, wanted := partsIn(name), partsIn(pattern); n < wanted || n > wanted && !rest {
				t.Fatalf("%q matches %q", name, pattern)
			}
		}
	}
}

// TestASignInThePlaceOfAPart: a name goes on matching when `*` stands in the place of any of its parts, and when `>` stands in the place of its last ones; not when `*` stands for two of them, or for none.
func TestASignInThePlaceOfAPart(t *testing.T) {
	for _, name := range append(rowsOf(4, "a", "ab", "0"), rightNames()...) {
		if !impl.NameOk(name) {
			continue
		}
		parts := strings.Split(name, ".")
		for at := range parts {
			with := func(sign string, from int, to int) string {
				row := append(append(append([]string{}, parts[:from]...), sign), parts[to:]...)
				return strings.Join(row, ".")
			}
			if s := with("*", at, at+1); impl.PatternOk(s) && !impl.Matches(name, s) {
				t.Fatalf("%q does not match %q", name, s)
			}
			if s := with(">", at, len(parts)); !impl.PatternOk(s) || !impl.Matches(name, s) {
				t.Fatalf("%q does not match %q", name, s)
			}
			if s := with("*", at, at); impl.Matches(name, s) {
				t.Fatalf("%q matches %q", name, s)
			}
			if at+2 <= len(parts) && impl.Matches(name, with("*", at, at+2)) {
				t.Fatalf("%q matches %q", name, with("*", at, at+2))
			}
		}
		if impl.Matches(name, name+".>") || impl.Matches(name, name+".*") || impl.Matches(name, "*."+name) {
			t.Fatalf("%q matches with one part more", name)
		}
	}
}
