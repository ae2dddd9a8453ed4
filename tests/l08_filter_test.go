package tests

import (
	"fmt"
	"math"
	"regexp"
	"slices"
	"strconv"
	"strings"
	"testing"

	"loop.example/g00098/impl"
)

func bare(op int) impl.Term { return impl.Term{Op: op} }

func below(n int) impl.Term { return impl.Term{Op: impl.FBelow, Num: n} }

func dividedBy(n int) impl.Term { return impl.Term{Op: impl.FEach, Num: n} }

func starts(s string) impl.Term { return impl.Term{Op: impl.FStarts, Text: s} }

func holds(s string) impl.Term { return impl.Term{Op: impl.FHolds, Text: s} }

func allOf(terms ...impl.Term) []impl.Term { return terms }

// nots is a filter of n terms, right up to MaxTerms.
func nots(n int) []impl.Term {
	if n == 0 {
		return nil
	}
	return append(allOf(bare(impl.FAll)), slices.Repeat(allOf(bare(impl.FNot)), n-1)...)
}

func notsText(n int) string {
	if n == 0 {
		return ""
	}
	return "all" + strings.Repeat(" !", n-1)
}

// ands is a filter of n terms, right if n is odd and below MaxTerms: each is held against the next, in the end all together.
func ands(n int, first impl.Term, next impl.Term) []impl.Term {
	f := allOf(first)
	for len(f) < n {
		f = append(f, next, bare(impl.FAnd))
	}
	return f[:n]
}

// deep is a filter of n terms, right if n is odd and below MaxTerms: all that is taken is laid down ahead of all that takes.
func deep(n int, leaf impl.Term, taker int) []impl.Term {
	return append(slices.Repeat(allOf(leaf), n/2+1), slices.Repeat(allOf(bare(taker)), n/2)...)
}

var (
	partRule = regexp.MustCompile(`^[a-z]{1,10}$`)
	wordRule = regexp.MustCompile(`^(all|num|text|!|&|\||<(?:0|-?[1-9][0-9]{0,8})|%[1-9][0-9]{0,8}|\^[a-z]{1,10}|~[a-z]{1,10})$`)
)

func termIsRight(x impl.Term) bool {
	switch x.Op {
	case 1, 2, 3, 8, 9, 10:
		return x == impl.Term{Op: x.Op}
	case 4, 5:
		least := map[int]int{4: -999999999, 5: 1}[x.Op]
		return x.Text == "" && x.Num >= least && x.Num <= 999999999
	case 6, 7:
		return x.Num == 0 && partRule.MatchString(x.Text)
	}
	return false
}

// leftOf tells how many are left in the end; -1 where there is not what is taken.
func leftOf(f []impl.Term) int {
	n := 0
	for _, x := range f {
		taken := map[int]int{8: 1, 9: 2, 10: 2}[x.Op]
		if n < taken {
			return -1
		}
		n += 1 - taken
	}
	return n
}

func filterIsRight(f []impl.Term) bool {
	wrong := func(x impl.Term) bool { return !termIsRight(x) }
	return len(f) == 0 || len(f) <= 12 && !slices.ContainsFunc(f, wrong) && leftOf(f) == 1
}

// termSays is asked of terms that take nothing.
func termSays(x impl.Term, m impl.Msg) bool {
	number := m.Kind == 1
	switch x.Op {
	case 2:
		return number
	case 3:
		return !number
	case 4:
		return number && m.Num-x.Num < 0
	case 5:
		return number && m.Num/x.Num*x.Num == m.Num
	case 6:
		return !number && strings.Index(m.Text, x.Text) == 0
	case 7:
		return !number && len(strings.Split(m.Text, x.Text)) > 1
	}
	return true
}

// saysAt goes down from a term to what it takes, not up from the first term on; it tells what comes of the term at a place, and the place ahead of all that it took.
func saysAt(f []impl.Term, place int, m impl.Msg) (bool, int) {
	switch f[place].Op {
	case 8:
		one, ahead := saysAt(f, place-1, m)
		return !one, ahead
	case 9, 10:
		second, ahead := saysAt(f, place-1, m)
		first, ahead := saysAt(f, ahead, m)
		if f[place].Op == 9 {
			return first && second, ahead
		}
		return first || second, ahead
	}
	return termSays(f[place], m), place - 1
}

func lets(f []impl.Term, m impl.Msg) bool {
	if !filterIsRight(f) || !msgIsRight(m) {
		return false
	}
	if len(f) == 0 {
		return true
	}
	says, _ := saysAt(f, len(f)-1, m)
	return says
}

// toldAs is asked of right filters alone.
func toldAs(f []impl.Term) string {
	words := []string{"?", "all", "num", "text", "<", "%", "^", "~", "!", "&", "|"}
	var list []string
	for _, x := range f {
		s := words[x.Op] + x.Text
		if x.Num != 0 || x.Op == 4 {
			s += fmt.Sprint(x.Num)
		}
		list = append(list, s)
	}
	return strings.Join(list, " ")
}

// termsOf reads a text by a rule for its words; false when it is the text of no filter.
func termsOf(s string) ([]impl.Term, bool) {
	if s == "" {
		return nil, true
	}
	var f []impl.Term
	for _, w := range strings.Split(s, " ") {
		if !wordRule.MatchString(w) {
			return nil, false
		}
		n, _ := strconv.Atoi(w[1:])
		switch w[0] {
		case '<':
			f = append(f, below(n))
		case '%':
			f = append(f, dividedBy(n))
		case '^':
			f = append(f, starts(w[1:]))
		case '~':
			f = append(f, holds(w[1:]))
		default:
			f = append(f, bare(map[string]int{"all": 1, "num": 2, "text": 3, "!": 8, "&": 9, "|": 10}[w]))
		}
	}
	if !filterIsRight(f) {
		return nil, false
	}
	return f, true
}

// mustTerms is for texts that stand in a test.
func mustTerms(t *testing.T, s string) []impl.Term {
	t.Helper()
	f, ok := termsOf(s)
	if !ok {
		t.Fatalf("the test's own text is none: %q", s)
	}
	return f
}

var fillTerm = impl.Term{Op: filler, Num: filler, Text: "filler"}

func otherTerm(x impl.Term) impl.Term {
	return impl.Term{Op: x.Op + 1000003, Num: ^x.Num, Text: x.Text + "!"}
}

// checkFilterOk, and those behind it, hold a function against the plain rules above, and look at the memory. They end the test, as a fault would be told very often.
func checkFilterOk(t *testing.T, f []impl.Term) {
	t.Helper()
	given := roomyWith(f, fillTerm)
	if ok := impl.FilterOk(given); ok != filterIsRight(f) {
		t.Fatalf("FilterOk(%+v) = %v", f, ok)
	}
	checkApartWith(t, "FilterOk", given, f, fillTerm, otherTerm)
	if t.Failed() {
		t.FailNow()
	}
}

func checkPasses(t *testing.T, f []impl.Term, msgs []impl.Msg) {
	t.Helper()
	given := roomyWith(f, fillTerm)
	for _, m := range msgs {
		kept := m
		if ok := impl.Passes(given, m); ok != lets(f, m) || m != kept {
			t.Fatalf("Passes(%+v, %+v) = %v", f, m, ok)
		}
	}
	checkApartWith(t, "Passes", given, f, fillTerm, otherTerm)
	if t.Failed() {
		t.FailNow()
	}
}

func checkFilterText(t *testing.T, f []impl.Term) {
	t.Helper()
	given := roomyWith(f, fillTerm)
	right, want := filterIsRight(f), ""
	if right {
		want = toldAs(f)
	}
	s, ok := impl.FilterText(given)
	if ok != right || s != want {
		t.Fatalf("FilterText(%+v) = %q, %v; want %q, %v", f, s, ok, want, right)
	}
	checkApartWith(t, "FilterText", given, f, fillTerm, otherTerm)
	if back, read := impl.ReadFilter(s); right && (!read || !slices.Equal(back, f)) {
		t.Fatalf("%q is read as %+v, %v; it is the text of %+v", s, back, read, f)
	}
	if t.Failed() {
		t.FailNow()
	}
}

func checkOther(t *testing.T, f []impl.Term) {
	t.Helper()
	given := roomyWith(f, fillTerm)
	var want []impl.Term
	right := filterIsRight(f) && len(f) < 12
	switch {
	case right && len(f) == 0:
		want = allOf(bare(1), bare(8))
	case right:
		want = append(slices.Clone(f), bare(8))
	}
	other, ok := impl.Other(given)
	if ok != right || !slices.Equal(other, want) {
		t.Fatalf("Other(%+v) = %+v, %v; want %+v, %v", f, other, ok, want, right)
	}
	checkApartWith(t, "Other", given, f, fillTerm, otherTerm, other)
	if t.Failed() {
		t.FailNow()
	}
}

func checkBoth(t *testing.T, f []impl.Term, g []impl.Term) {
	t.Helper()
	givenF, givenG := roomyWith(f, fillTerm), roomyWith(g, fillTerm)
	var want []impl.Term
	right := filterIsRight(f) && filterIsRight(g)
	switch {
	case right && len(g) == 0:
		want = f
	case right && len(f) == 0:
		want = g
	case right && len(f)+len(g) < 12:
		want = append(append(slices.Clone(f), g...), bare(9))
	default:
		right = false
	}
	both, ok := impl.Both(givenF, givenG)
	if ok != right || !slices.Equal(both, want) {
		t.Fatalf("Both(%+v, %+v) = %+v, %v; want %+v, %v", f, g, both, ok, want, right)
	}
	checkApartWith(t, "Both", givenF, f, fillTerm, otherTerm, both)
	checkApartWith(t, "Both", givenG, g, fillTerm, otherTerm, both)
	if t.Failed() {
		t.FailNow()
	}
}

// checkFilter asks every function of filters but Both and ReadFilter at f.
func checkFilter(t *testing.T, f []impl.Term, msgs []impl.Msg) {
	t.Helper()
	checkFilterOk(t, f)
	checkPasses(t, f, msgs)
	checkFilterText(t, f)
	checkOther(t, f)
}

func checkReadFilter(t *testing.T, s string) {
	t.Helper()
	want, right := termsOf(s)
	f, ok := impl.ReadFilter(s)
	if ok != right || !slices.Equal(f, want) {
		t.Fatalf("ReadFilter(%q) = %+v, %v; want %+v, %v", s, f, ok, want, right)
	}
	if back, told := impl.FilterText(f); ok && (!told || back != s) {
		t.Fatalf("%q is read as %+v, whose text is %q, %v", s, f, back, told)
	}
	spoilWith(f, otherTerm)
	if again, ok := impl.ReadFilter(s); ok != right || !slices.Equal(again, want) {
		t.Fatalf("ReadFilter(%q) = %+v, %v the second time", s, again, ok)
	}
}

// edgeMsgs are numbers and texts at what the filters of these tests ask for, and beside it.
func edgeMsgs() []impl.Msg {
	var list []impl.Msg
	for _, n := range []int{-impl.MaxNum, -impl.MaxNum + 1, -7, -6, -4, -3, -2, -1, 0, 1, 2, 3, 4, 5, 6, 7, impl.MaxNum - 1, impl.MaxNum} {
		list = append(list, num(n))
	}
	for _, s := range []string{"", "a", "b", "ab", "ba", "aab", "bab", "abc", "cab", "xaby", "aaa", "A", "AB", " ab", "a b", "3", "num", strings.Repeat("a", impl.MaxMsg), strings.Repeat("c", impl.MaxMsg-1) + "b"} {
		list = append(list, text(s))
	}
	return list
}

// leaves are terms that take nothing, of each Op.
func leaves() []impl.Term {
	return allOf(bare(impl.FAll), bare(impl.FNum), bare(impl.FText), below(3), dividedBy(2), starts("a"), holds("b"))
}

func takers() []impl.Term { return allOf(bare(impl.FNot), bare(impl.FAnd), bare(impl.FOr)) }

// oddNums and oddParts are at the edges of what an Op may have, beside them, and far beyond.
func oddNums() []int {
	return []int{math.MinInt, -1 << 32, -impl.MaxNum - 2, -impl.MaxNum - 1, -impl.MaxNum, -impl.MaxNum + 1, -2, -1, 0, 1, 2, impl.MaxNum - 1, impl.MaxNum, impl.MaxNum + 1, impl.MaxNum + 2, 1<<32 + 1, math.MaxInt}
}

func oddParts() []string {
	full := strings.Repeat("m", impl.MaxPart)
	return []string{"", "a", "z", "az", full[1:], full, full + "m", strings.Repeat("m", 100000), "`", "{", "A", "Z", "0", "9", " ", "a ", " a", "a b", "-", "<", "!", "\"", "é", "aé", "ａ", "\x00", "a\x00", "a\n", "\n", "\xff", "a\x80", full[1:] + "`", full[1:] + "{", "{" + full[1:], full[:8] + "é", full[:9] + "é"}
}

func oddOps() []int {
	return append([]int{math.MinInt, -10, -1, 11, 12, 13, 256 + 1, 1<<32 + 1, math.MaxInt}, upTo(0, 11)...)
}

func TestFilterConstants(t *testing.T) {
	if impl.MaxTerms != 12 || impl.MaxPart != 10 {
		t.Error("limits", impl.MaxTerms, impl.MaxPart)
	}
	for i, op := range []int{impl.FAll, impl.FNum, impl.FText, impl.FBelow, impl.FEach, impl.FStarts, impl.FHolds, impl.FNot, impl.FAnd, impl.FOr} {
		if op != i+1 {
			t.Error("op", i+1, op)
		}
	}
}

// TestTermsByHand has its answers written out, so that it leans on no second way to work them out.
func TestTermsByHand(t *testing.T) {
	full := "abcdefghij"
	for _, x := range allOf(bare(1), bare(2), bare(3), below(-999999999), below(-1), below(0), below(1), below(999999999), dividedBy(1), dividedBy(2), dividedBy(999999999), starts("a"), starts("z"), starts(full), holds("a"), holds("z"), holds(full), starts("zzzzzzzzzz")) {
		if !impl.FilterOk(allOf(x)) || !impl.FilterOk(allOf(x, bare(8))) || !impl.FilterOk(allOf(x, x, bare(9))) || !impl.FilterOk(allOf(bare(1), x, bare(10))) {
			t.Error("not right", x)
		}
	}
	wrong := allOf(bare(0), bare(11), bare(-1), below(-1000000000), below(1000000000), dividedBy(-1), dividedBy(0), dividedBy(1000000000), dividedBy(-999999999))
	for _, s := range []string{"", full + "k", "`", "{", "A", "Z", "a{", "`a", "a b", "é", "1", "abcdefghi{"} {
		wrong = append(wrong, starts(s), holds(s))
	}
	for _, x := range wrong {
		if impl.FilterOk(allOf(x)) || impl.FilterOk(allOf(x, bare(8))) || impl.FilterOk(allOf(bare(1), x, bare(9))) || impl.FilterOk(allOf(x, bare(1), bare(10))) {
			t.Error("right", x)
		}
	}
}

// TestATermHasJustWhatItsOpHas lays what another Op has into each.
func TestATermHasJustWhatItsOpHas(t *testing.T) {
	for _, x := range append(leaves(), takers()...) {
		ahead := allOf(bare(impl.FAll), bare(impl.FNum))[:3-leftOf(allOf(bare(1), bare(2), x))]
		if !impl.FilterOk(append(slices.Clone(ahead), x)) {
			t.Error("not right", ahead, x)
		}
		for _, n := range []int{-impl.MaxNum, -1, 1, 2, impl.MaxNum} {
			if y := (impl.Term{Op: x.Op, Num: n, Text: x.Text}); x.Num == 0 && impl.FilterOk(append(slices.Clone(ahead), y)) {
				t.Error("a Num too many", ahead, y)
			}
		}
		for _, s := range []string{"a", "z", " ", "\x00", "abcdefghij"} {
			if y := (impl.Term{Op: x.Op, Num: x.Num, Text: s}); x.Text == "" && impl.FilterOk(append(slices.Clone(ahead), y)) {
				t.Error("a Text too many", ahead, y)
			}
		}
	}
}

// TestEveryTermAtItsEdges has each Op, right or not, with each Num and each Text, alone and among others.
func TestEveryTermAtItsEdges(t *testing.T) {
	msgs := []impl.Msg{num(0), num(-4), text("ab"), text(""), {}}
	for _, op := range oddOps() {
		for _, n := range oddNums() {
			for _, s := range oddParts() {
				x := impl.Term{Op: op, Num: n, Text: s}
				checkFilter(t, allOf(x), msgs)
				checkFilterOk(t, allOf(bare(1), x))
				checkFilterOk(t, allOf(bare(1), bare(2), x))
				checkFilterOk(t, allOf(x, bare(8)))
				checkFilterOk(t, allOf(bare(1), x, bare(9)))
			}
		}
	}
}

func TestEachByteOfAPart(t *testing.T) {
	full := strings.Repeat("k", impl.MaxPart-1)
	for b := range 256 {
		c := string([]byte{byte(b)})
		letter := b >= 'a' && b <= 'z'
		for _, s := range []string{c, c + "a", "a" + c, "a" + c + "a", full + c, c + full, full[:5] + c + full[5:]} {
			for _, x := range allOf(starts(s), holds(s)) {
				if impl.FilterOk(allOf(x)) != letter {
					t.Fatalf("byte %d of %q: want %v", b, s, letter)
				}
				checkFilter(t, allOf(x), []impl.Msg{text(s), text("k" + s), text("")})
			}
		}
	}
}

func TestPartsOfEachLength(t *testing.T) {
	for n := range impl.MaxPart + 5 {
		s := strings.Repeat("q", n)
		want := n >= 1 && n <= impl.MaxPart
		if impl.FilterOk(allOf(starts(s))) != want || impl.FilterOk(allOf(holds(s))) != want {
			t.Error("length", n)
		}
	}
}

// TestShapesByHand has its answers written out too: what is taken is there or not, and one is left or not.
func TestShapesByHand(t *testing.T) {
	all, not, and, or := bare(1), bare(8), bare(9), bare(10)
	for _, f := range [][]impl.Term{
		nil, {}, {all}, {all, not}, {all, not, not}, {all, all, and}, {all, all, or}, {all, not, all, and}, {all, all, not, or}, {all, all, and, not},
		{all, all, and, all, or}, {all, all, all, and, or}, {all, all, all, all, and, and, and}, {all, all, or, all, all, or, and}, {all, all, all, not, and, not, or, not},
	} {
		if !impl.FilterOk(f) {
			t.Error("not right", f)
		}
	}
	for _, f := range [][]impl.Term{
		{not}, {and}, {or}, {not, all}, {and, all, all}, {or, all, all}, {all, and}, {all, or}, {all, not, and}, {all, and, all}, {all, or, all}, {all, and, not},
		{all, all}, {all, all, not}, {all, all, all}, {all, all, all, and}, {all, all, all, or}, {all, all, and, and}, {all, all, and, or}, {all, all, or, all}, {not, not}, {all, all, and, and, all}, {all, all, and, and, all, all}, {not, all, all, and},
	} {
		if impl.FilterOk(f) {
			t.Error("right", f)
		}
	}
}

// TestEveryShape goes through all lists of a few terms, whether they are right or not.
func TestEveryShape(t *testing.T) {
	few := allOf(bare(1), below(3), starts("a"), bare(8), bare(9), bare(10), bare(0), bare(11))
	right := 0
	eachList(few, 5, func(f []impl.Term) {
		if filterIsRight(f) {
			right++
		}
		if impl.FilterOk(f) != filterIsRight(f) {
			t.Fatal("right or not", f)
		}
	})
	eachList(few, 4, func(f []impl.Term) {
		checkFilter(t, f, []impl.Msg{num(2), num(3), text("ab"), text("b"), {}})
	})
	// 1 without terms, 3 of one, 3 of two, 3 + 2*9 of three, 3 + 6*9 of four, 3 + 12*9 + 2*4*27 of five.
	if right != 1+3+3+21+57+327 {
		t.Error("how many are right", right)
	}
}

// TestEveryRightShape has each Op that lays something down, and each that takes.
func TestEveryRightShape(t *testing.T) {
	msgs := append(edgeMsgs(), impl.Msg{})
	eachList(append(leaves(), takers()...), 4, func(f []impl.Term) {
		if filterIsRight(f) {
			checkFilter(t, f, msgs)
		}
	})
}

// longFilters are right, of each number of terms up to MaxTerms, and some of one term more, which are wrong for that alone.
func longFilters() [][]impl.Term {
	list := [][]impl.Term{nots(12), nots(13), nots(100), ands(11, below(3), holds("b")), ands(13, below(3), holds("b")), deep(11, dividedBy(2), 10), deep(13, dividedBy(2), 10)}
	for n := range 12 {
		list = append(list, nots(n))
	}
	for n := 1; n <= 13; n += 2 {
		list = append(list, ands(n, bare(2), dividedBy(3)), deep(n, starts("abcdefghij"), 9), deep(n, below(-impl.MaxNum), 10))
	}
	return append(list, append(ands(11, bare(3), starts("a")), bare(8)), append(ands(11, bare(3), starts("a")), bare(8), bare(8)))
}

func TestHowManyTerms(t *testing.T) {
	for n := range 20 {
		want := n <= 12
		if impl.FilterOk(nots(n)) != want || impl.Passes(nots(n), num(1)) != (want && n%2 == 1 || n == 0) {
			t.Error("terms", n)
		}
		if other, ok := impl.Other(nots(n)); ok != (n <= 11) || ok && len(other) != max(n+1, 2) || !ok && len(other) != 0 {
			t.Error("other", n, other, ok)
		}
		s := notsText(n)
		if told, ok := impl.FilterText(nots(n)); ok != want || ok && told != s || !ok && told != "" {
			t.Error("text", n, told, ok)
		}
		if f, ok := impl.ReadFilter(s); ok != want || ok && len(f) != n || !ok && len(f) != 0 {
			t.Error("read", n, f, ok)
		}
	}
	for _, f := range longFilters() {
		checkFilter(t, f, append(edgeMsgs(), wrongMsgs()...))
	}
}

// TestHowManyTermsOfBoth has each number of terms of the one with each of the other.
func TestHowManyTermsOfBoth(t *testing.T) {
	for n := range 14 {
		for k := range 14 {
			want := n <= 12 && k <= 12 && (n == 0 || k == 0 || n+k+1 <= 12)
			both, ok := impl.Both(nots(n), nots(k))
			if ok != want || ok && n > 0 && k > 0 && len(both) != n+k+1 || ok && (n == 0 || k == 0) && len(both) != n+k || !ok && len(both) != 0 {
				t.Error("both", n, k, both, ok)
			}
			checkBoth(t, nots(n), nots(k))
		}
	}
	list := longFilters()
	for _, f := range list {
		for _, g := range list {
			checkBoth(t, f, g)
		}
	}
}

// wrongFilters are not FilterOk, each for a reason of its own, some for several; some of them would be right with others ahead or behind.
func wrongFilters() [][]impl.Term {
	all, not, and, or := bare(1), bare(8), bare(9), bare(10)
	list := [][]impl.Term{
		{not}, {and}, {or}, {all, and}, {all, or}, {all, all}, {all, all, all}, {all, all, not}, {not, all}, {all, and, all}, {all, all, and, and},
		{bare(0)}, {bare(11)}, {bare(-1)}, {all, bare(0)}, {{}}, {all, {}}, {{Op: 1, Num: 1}}, {{Op: 1, Text: "a"}}, {all, {Op: 8, Num: 1}}, {all, all, {Op: 9, Text: "a"}}, {all, all, {Op: 10, Num: -1}},
		{below(impl.MaxNum + 1)}, {below(-impl.MaxNum - 1)}, {{Op: 4, Text: "a"}}, {dividedBy(0)}, {dividedBy(-1)}, {dividedBy(impl.MaxNum + 1)}, {{Op: 5, Num: 1, Text: "a"}},
		{starts("")}, {holds("")}, {starts("A")}, {holds("abcdefghijk")}, {{Op: 6, Num: 1, Text: "a"}}, {{Op: 7, Num: 1, Text: "a"}}, {starts("a b")}, {holds("a &")},
		nots(13), ands(13, bare(1), bare(1)), slices.Repeat(allOf(all), 12), slices.Repeat(allOf(all), 13), slices.Repeat(allOf(not), 12), slices.Repeat(allOf(bare(0)), 1000), nots(100000),
	}
	return append(list, append(ands(11, all, all), and), append(ands(11, all, all), all), append(ands(12, all, all), dividedBy(0)))
}

// TestWrongFilters has its answers written out: false, and beside it nothing.
func TestWrongFilters(t *testing.T) {
	msgs := append(edgeMsgs(), wrongMsgs()...)
	rights := [][]impl.Term{nil, {}, allOf(bare(1)), allOf(bare(2), bare(8)), ands(11, bare(1), bare(1))}
	for _, f := range wrongFilters() {
		if impl.FilterOk(f) {
			t.Fatal("right", f)
		}
		for _, m := range msgs {
			if impl.Passes(f, m) {
				t.Fatal("passes", f, m)
			}
		}
		if s, ok := impl.FilterText(f); ok || s != "" {
			t.Fatal("text", f, s, ok)
		}
		if other, ok := impl.Other(f); ok || len(other) != 0 {
			t.Fatal("other", f, other, ok)
		}
		for _, g := range append(rights, wrongFilters()...) {
			if both, ok := impl.Both(f, g); ok || len(both) != 0 {
				t.Fatal("both", f, g, both, ok)
			}
			if both, ok := impl.Both(g, f); ok || len(both) != 0 {
				t.Fatal("both", g, f, both, ok)
			}
		}
		checkFilter(t, f, msgs)
	}
}

// TestTwoWrongOnesAreNotRightTogether has pairs that are not right, though all their terms in a row are, with FAnd or without.
func TestTwoWrongOnesAreNotRightTogether(t *testing.T) {
	all, not, and := bare(1), bare(8), bare(9)
	for _, x := range [][2][]impl.Term{
		{{all, all}, {and}}, {{all, all, all}, {and}}, {{all, all}, {and, all}}, {{all}, {not, all}}, {{all}, {not}}, {{all, all}, {not}}, {{all, all}, nil}, {nil, {all, all}}, {{all, all}, {}}, {{}, {not}}, {nil, {bare(0)}}, {{bare(0)}, nil}, {nil, nots(13)}, {nots(13), nil},
	} {
		if both, ok := impl.Both(x[0], x[1]); ok || len(both) != 0 {
			t.Error("both", x, both, ok)
		}
	}
	if other, ok := impl.Other(allOf(all, all)); ok || len(other) != 0 {
		t.Error("other of two", other, ok)
	}
}

// TestBothAndOtherByHand has its answers written out too.
func TestBothAndOtherByHand(t *testing.T) {
	f, g := allOf(bare(2), below(3), bare(10)), allOf(starts("a"), bare(8))
	for i, x := range []struct{ f, g, want []impl.Term }{
		{nil, nil, nil}, {nil, []impl.Term{}, nil}, {[]impl.Term{}, nil, nil}, {f, nil, f}, {nil, f, f}, {f, []impl.Term{}, f}, {[]impl.Term{}, g, g}, {g, nil, g},
		{f, g, allOf(bare(2), below(3), bare(10), starts("a"), bare(8), bare(9))}, {g, f, allOf(starts("a"), bare(8), bare(2), below(3), bare(10), bare(9))},
		{f, f, allOf(bare(2), below(3), bare(10), bare(2), below(3), bare(10), bare(9))}, {allOf(bare(1)), allOf(bare(1)), allOf(bare(1), bare(1), bare(9))}, {nots(12), nil, nots(12)}, {nil, nots(12), nots(12)},
	} {
		if both, ok := impl.Both(x.f, x.g); !ok || !slices.Equal(both, x.want) {
			t.Error("both", i, both, ok)
		}
	}
	for i, x := range []struct{ f, want []impl.Term }{
		{nil, allOf(bare(1), bare(8))}, {[]impl.Term{}, allOf(bare(1), bare(8))}, {allOf(bare(1)), allOf(bare(1), bare(8))}, {allOf(bare(1), bare(8)), allOf(bare(1), bare(8), bare(8))}, {f, allOf(bare(2), below(3), bare(10), bare(8))}, {nots(11), nots(12)},
	} {
		if other, ok := impl.Other(x.f); !ok || !slices.Equal(other, x.want) {
			t.Error("other", i, other, ok)
		}
	}
}

// TestFiltersOfOneArray hands in filters that lie side by side, or are the same one, so that to add to the one would spoil the other.
func TestFiltersOfOneArray(t *testing.T) {
	room := allOf(bare(2), below(3), bare(9), holds("x"), bare(8), fillTerm, fillTerm)
	kept := slices.Clone(room)
	f, g := room[:3], room[3:5]
	ahead, _ := impl.Both(f, g)
	behind, _ := impl.Both(g, f)
	twice, _ := impl.Both(f, f)
	alone, _ := impl.Both(f, nil)
	last, _ := impl.Both(room[:0], g)
	none, ok := impl.Both(room[:0], room[5:5])
	other, _ := impl.Other(f)
	most, _ := impl.Other(room[:0])
	if !slices.Equal(room, kept) {
		t.Fatal("written into", room)
	}
	if !ok || len(none) != 0 || !slices.Equal(most, nots(2)) || !slices.Equal(other, append(slices.Clone(kept[:3]), bare(8))) {
		t.Error("none, other", none, ok, most, other)
	}
	if !slices.Equal(ahead, append(slices.Clone(kept[:5]), bare(9))) || !slices.Equal(behind, append(slices.Concat(kept[3:5], kept[:3]), bare(9))) || !slices.Equal(twice, append(slices.Concat(kept[:3], kept[:3]), bare(9))) {
		t.Error("both", ahead, behind, twice)
	}
	for _, answer := range [][]impl.Term{ahead, behind, twice, alone, last, none, other, most} {
		spoilWith(answer, otherTerm)
		if !slices.Equal(room, kept) {
			t.Fatal("an answer shares memory with its argument", answer)
		}
	}
}

// TestFiltersKeepNothing spoils what is answered and asks once more.
func TestFiltersKeepNothing(t *testing.T) {
	list := append(longFilters(), wrongFilters()...)
	for i, f := range list {
		g := list[(i*7+3)%len(list)]
		first := filterAnswers(f, g)
		var kept [][]impl.Term
		for _, a := range first {
			kept = append(kept, slices.Clone(a))
			spoilWith(a, otherTerm)
		}
		for j, a := range filterAnswers(f, g) {
			if !slices.Equal(a, kept[j]) {
				t.Fatal("another one the second time", f, g, j, a)
			}
		}
	}
}

func filterAnswers(f []impl.Term, g []impl.Term) [][]impl.Term {
	both, _ := impl.Both(f, g)
	alone, _ := impl.Both(f, nil)
	other, _ := impl.Other(f)
	none, _ := impl.Other(nil)
	s, _ := impl.FilterText(f)
	read, _ := impl.ReadFilter(s)
	return [][]impl.Term{both, alone, other, none, read}
}
