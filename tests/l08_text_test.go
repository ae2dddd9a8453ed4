package tests

import (
	"math/rand"
	"slices"
	"strings"
	"testing"

	"loop.example/g00098/impl"
)

// TestFilterTextsByHand has its answers written out, so that it leans on no second way to work them out.
func TestFilterTextsByHand(t *testing.T) {
	for s, f := range map[string][]impl.Term{
		"": nil, "all": allOf(bare(1)), "num": allOf(bare(2)), "text": allOf(bare(3)),
		"<0": allOf(below(0)), "<5": allOf(below(5)), "<-5": allOf(below(-5)), "<10": allOf(below(10)), "<999999999": allOf(below(999999999)), "<-999999999": allOf(below(-999999999)),
		"%1": allOf(dividedBy(1)), "%3": allOf(dividedBy(3)), "%10": allOf(dividedBy(10)), "%999999999": allOf(dividedBy(999999999)),
		"^a": allOf(starts("a")), "^z": allOf(starts("z")), "^abcdefghij": allOf(starts("abcdefghij")), "^all": allOf(starts("all")), "^num": allOf(starts("num")),
		"~a": allOf(holds("a")), "~z": allOf(holds("z")), "~qrstuvwxyz": allOf(holds("qrstuvwxyz")), "~text": allOf(holds("text")),
		"all !": allOf(bare(1), bare(8)), "all all &": allOf(bare(1), bare(1), bare(9)), "all all |": allOf(bare(1), bare(1), bare(10)), "num %2 &": allOf(bare(2), dividedBy(2), bare(9)), "text <3 |": allOf(bare(3), below(3), bare(10)),
		"^ab ! ~c <-7 | & !": allOf(starts("ab"), bare(8), holds("c"), below(-7), bare(10), bare(9), bare(8)),
	} {
		if told, ok := impl.FilterText(f); !ok || told != s {
			t.Errorf("the text of %+v: %q, %v", f, told, ok)
		}
		if read, ok := impl.ReadFilter(s); !ok || !slices.Equal(read, f) {
			t.Errorf("%q is read as %+v, %v", s, read, ok)
		}
	}
	if s, ok := impl.FilterText([]impl.Term{}); !ok || s != "" {
		t.Errorf("the text of no terms: %q, %v", s, ok)
	}
}

// otherTexts are the texts of no filter.
func otherTexts() []string {
	list := []string{
		" ", "  ", " all", "all ", "  all", "all  ", "all  !", "all   !", " all !", "all ! ", "all !  ", "num  %2 &", "num %2  &", "num %2 & ", "all\n", "\nall", "all\t!", "all\n!", "all\r!", "all\x00", "\x00", "all\u00a0!", "\ufeffall",
		"All", "ALL", "al", "alll", "nums", "nu", "number", "texts", "tex", "Text", "a", "any", "none", "not", "and", "or", "?", "0", "5", "-5", "!!", "&&", "||", "all!", "all&", "!all", "x", "=", ">5", "*", "\"a\"",
		"<", "<-", "<+", "<+5", "<+0", "<-0", "<00", "<05", "<007", "<-05", "<1000000000", "<-1000000000", "<1234567890", "<9999999999", "<0999999999", "<--5", "<5-", "<5a", "<a", "<5.0", "<5e1", "<0x5", "<1_0", "< 5", "<5 ", "<<5", "<%5", "<\u0665", "<9223372036854775807", "<9223372036854775808", "<18446744073709551617", "<" + strings.Repeat("9", 1000),
		"%", "%-", "%+", "%0", "%-0", "%+5", "%-1", "%-5", "%-999999999", "%00", "%01", "%05", "%1000000000", "%1234567890", "%0999999999", "% 5", "%5%", "%a", "%%5", "%5a", "%" + strings.Repeat("9", 1000),
		"^", "^A", "^Z", "^aB", "^`", "^{", "^1", "^a1", "^a ", "^ a", "^a-b", "^^a", "^abcdefghijk", "^é", "^aé", "^\xff", "^a\x00", "^\"a\"",
		"~", "~A", "~Z", "~Ab", "~`", "~{", "~2", "~a2", "~ a", "~~a", "~abcdefghijk", "~é", "~\x80", "~a\n", "~a^b", "~" + strings.Repeat("a", 100000),
		"!", "&", "|", "! all", "& all all", "| all all", "all &", "all |", "all & all", "all | all", "all all", "all all !", "all all all", "all all all &", "all all & &", "all all & |", "num text", "<5 <5", "^a ~a", "all ! &", "num & text", "(all)", "all,num", "all num and",
		"all" + strings.Repeat(" !", 12), "all" + strings.Repeat(" all &", 6), strings.Repeat("all ", 7) + strings.TrimSpace(strings.Repeat("& ", 6)), strings.Repeat("all ", 100000), "all" + strings.Repeat(" !", 100000), strings.Repeat(" ", 100000), strings.Repeat("!", 100000), strings.Repeat("all", 100000),
	}
	return list
}

func TestOtherTextsAreNoFilters(t *testing.T) {
	for _, s := range otherTexts() {
		if f, ok := impl.ReadFilter(s); ok || len(f) != 0 {
			t.Errorf("%.60q is read as %+v, %v", s, f, ok)
		}
		for _, more := range []string{s + " !", "all " + s, "all " + s + " &", s + " all |", "all " + s + " ! &"} {
			checkReadFilter(t, more)
		}
	}
}

// TestAWordThatIsNone has it among words that are right without it, and would be with another word in its place.
func TestAWordThatIsNone(t *testing.T) {
	for _, w := range otherTexts() {
		if strings.Contains(w, " ") || w == "!" || w == "&" || w == "|" {
			continue
		}
		for _, s := range []string{w, w + " !", "all " + w + " &", w + " all |", "num ! " + w + " | !", "all all & " + w + " &"} {
			if f, ok := impl.ReadFilter(s); ok || len(f) != 0 {
				t.Errorf("%.60q is read as %+v, %v", s, f, ok)
			}
		}
	}
}

// eachText hands over all texts of at most n of those pieces in a row.
func eachText(pieces []string, n int, visit func(s string)) {
	eachList(pieces, n, func(list []string) { visit(strings.Join(list, "")) })
}

// TestEveryShortFilterText holds ReadFilter against a rule for words, at all texts of a few pieces that matter.
func TestEveryShortFilterText(t *testing.T) {
	read := 0
	see := func(s string) {
		checkReadFilter(t, s)
		if _, ok := impl.ReadFilter(s); ok {
			read++
		}
	}
	eachText([]string{"<", "%", "^", "~", "!", "-", "+", "0", "1", "a", " ", "A"}, 4, see)
	eachText([]string{"all", "num", " ", "!", "&", "|", "<1", "~z"}, 5, see)
	eachText([]string{"all", "text", " ", " !", " &", " |", " ^a", "%1"}, 5, see)
	if read < 100 {
		t.Error("how many were read", read)
	}
}

// TestEveryByteOfAFilterText changes right texts at each place: a byte is another one, is left out, or stands there besides.
func TestEveryByteOfAFilterText(t *testing.T) {
	for _, s := range []string{"", "all", "num !", "text <5 |", "<-10 %20 &", "^ab ~zy | !", "<999999999", "%100000000", "^abcdefghij", "all all & ! all |"} {
		for i := range len(s) + 1 {
			for b := range 256 {
				c := string([]byte{byte(b)})
				checkReadFilter(t, s[:i]+c+s[i:])
				if i < len(s) {
					checkReadFilter(t, s[:i]+c+s[i+1:])
					checkReadFilter(t, s[:i]+s[i+1:])
				}
			}
		}
	}
}

// someFilter is a right filter of n terms, of any shape.
func someFilter(r *rand.Rand, n int) []impl.Term {
	switch {
	case n <= 0:
		return nil
	case n == 1:
		return allOf(someLeaf(r))
	case n == 2 || r.Intn(4) == 0:
		return append(someFilter(r, n-1), bare(8))
	}
	k := 1 + r.Intn(n-2)
	return append(append(someFilter(r, k), someFilter(r, n-1-k)...), bare(9+r.Intn(2)))
}

func someLeaf(r *rand.Rand) impl.Term {
	letters := make([]byte, 1+r.Intn(2))
	if r.Intn(5) == 0 {
		letters = make([]byte, 1+r.Intn(impl.MaxPart))
	}
	for i := range letters {
		letters[i] = "aabbcz"[r.Intn(6)]
	}
	n := 1 + r.Intn(6)
	if r.Intn(5) == 0 {
		n = 1 + r.Intn(impl.MaxNum)
	}
	switch r.Intn(8) {
	case 0, 1:
		return bare(1 + r.Intn(3))
	case 2:
		return below(-n)
	case 3:
		return below(n)
	case 4, 5:
		return dividedBy(n)
	case 6:
		return starts(string(letters))
	}
	return holds(string(letters))
}

// TestManyFiltersAreReadAsThemselves has filters of each number of terms, and of many shapes.
func TestManyFiltersAreReadAsThemselves(t *testing.T) {
	r := rand.New(rand.NewSource(8))
	seen := map[string]int{}
	for range 400 {
		for n := range impl.MaxTerms + 1 {
			f := someFilter(r, n)
			if len(f) != n || !filterIsRight(f) {
				t.Fatal("the test's own filter", n, f)
			}
			checkFilter(t, f, nil)
			s, _ := impl.FilterText(f)
			checkReadFilter(t, s)
			seen[s]++
		}
	}
	if len(seen) < 3000 {
		t.Error("too few unlike ones", len(seen))
	}
}

// TestUnlikeFiltersHaveUnlikeTexts is what follows, but is asked of FilterText alone.
func TestUnlikeFiltersHaveUnlikeTexts(t *testing.T) {
	texts := map[string][]impl.Term{}
	terms := append(append(leaves(), takers()...), below(0), below(-3), below(33), dividedBy(3), dividedBy(33), starts("aa"), holds("a"), starts("num"))
	eachList(terms, 3, func(f []impl.Term) {
		s, ok := impl.FilterText(f)
		if !ok {
			return
		}
		if g, there := texts[s]; there {
			t.Fatal("two of one text", s, f, g)
		}
		texts[s] = f
	})
}

// TestTheLongestTexts has words that are as long as they can be.
func TestTheLongestTexts(t *testing.T) {
	for _, x := range allOf(below(-impl.MaxNum), dividedBy(impl.MaxNum), starts("abcdefghij"), holds("zzzzzzzzzz")) {
		f := ands(11, x, x)
		checkFilter(t, f, edgeMsgs())
		checkFilter(t, append(f, bare(8)), edgeMsgs())
		s, _ := impl.FilterText(f)
		checkReadFilter(t, s)
		checkReadFilter(t, s+" !")
		checkReadFilter(t, s+" ! !")
		checkReadFilter(t, s+" "+s)
	}
}
