package tests

import (
	"math"
	"slices"
	"strings"
	"testing"

	"loop.example/g00098/impl"
)

// The tests of this file have their answers written out, so that they lean on no second way to work them out.

// rowCase is a call and its text.
type rowCase struct {
	s string
	c impl.Call
}

// bareRows are those of which no word can be left out, but for messages.
func bareRows() []rowCase {
	return []rowCase{
		{"tell 0", asks(1, 0)}, {"tell 7", asks(1, 7)}, {"tell 10", asks(1, 10)}, {"tell 999999999", asks(1, 999999999)},
		{"tellall 0", asks(2, 0)}, {"tellall 31", asks(2, 31)}, {"tellall 999999999", asks(2, 999999999)},
		{"raise 0", asks(4, 0)}, {"raise 100", asks(4, 100)}, {"raise 999999999", asks(4, 999999999)},
		{"reset 0", asks(5, 0)}, {"reset 9", asks(5, 9)}, {"reset 999999999", asks(5, 999999999)},
		{"down 0 0", asksWith(7, 0, 0)}, {"down 1 3", asksWith(7, 1, 3)}, {"down 3 1", asksWith(7, 3, 1)}, {"down 0 999999999", asksWith(7, 0, 999999999)}, {"down 999999999 0", asksWith(7, 999999999, 0)}, {"down 999999999 999999999", asksWith(7, 999999999, 999999999)},
		{"look 0", asks(10, 0)}, {"look 5", asks(10, 5)}, {"look 999999999", asks(10, 999999999)},
		{"shut 0", asks(12, 0)}, {"shut 6", asks(12, 6)}, {"shut 999999999", asks(12, 999999999)},
		{"unsub 0", takes(16, 0)}, {"unsub 11", takes(16, 11)}, {"unsub 999999999", takes(16, 999999999)},
		{"close 0", asks(17, 0)}, {"close 2", asks(17, 2)}, {"close 999999999", asks(17, 999999999)},
		{"cancel 0", asks(18, 0)}, {"cancel 23", asks(18, 23)}, {"cancel 999999999", asks(18, 999999999)},
		{"timer 0 0", asksWith(19, 0, 0)}, {"timer 5 1", asksWith(19, 5, 1)}, {"timer 1 5", asksWith(19, 1, 5)}, {"timer 0 999999999", asksWith(19, 0, 999999999)}, {"timer 999999999 0", asksWith(19, 999999999, 0)}, {"timer 999999999 999999999", asksWith(19, 999999999, 999999999)},
	}
}

// tokenRows are those that may wait, with a token and without.
func tokenRows() []rowCase {
	return []rowCase{
		{"await 0", asks(3, 0)}, {"await 0 by 0", byToken(asks(3, 0), 0)}, {"await 2 by 23", byToken(asks(3, 2), 23)}, {"await 999999999", asks(3, 999999999)}, {"await 999999999 by 999999999", byToken(asks(3, 999999999), 999999999)},
		{"stand 0", asks(6, 0)}, {"stand 0 by 0", byToken(asks(6, 0), 0)}, {"stand 7 by 10", byToken(asks(6, 7), 10)}, {"stand 999999999 by 0", byToken(asks(6, 999999999), 0)}, {"stand 0 by 999999999", byToken(asks(6, 0), 999999999)},
		{"latch 0", asks(8, 0)}, {"latch 0 by 0", byToken(asks(8, 0), 0)}, {"latch 3 by 1", byToken(asks(8, 3), 1)}, {"latch 999999999", asks(8, 999999999)}, {"latch 1 by 999999999", byToken(asks(8, 1), 999999999)},
		{"watch 0", asks(11, 0)}, {"watch 0 by 0", byToken(asks(11, 0), 0)}, {"watch 1 by 3", byToken(asks(11, 1), 3)}, {"watch 999999999", asks(11, 999999999)}, {"watch 2 by 999999999", byToken(asks(11, 2), 999999999)},
		{"recv 0", takes(15, 0)}, {"recv 0 by 0", byToken(takes(15, 0), 0)}, {"recv 1 by 3", byToken(takes(15, 1), 3)}, {"recv 999999999", takes(15, 999999999)}, {"recv 4 by 999999999", byToken(takes(15, 4), 999999999)},
	}
}

// msgRows are those with a message: numbers, and texts whose blanks are theirs.
func msgRows() []rowCase {
	full := strings.Repeat("m", 40)
	return []rowCase{
		{"put 0 0", changes(0, put(num(0)))}, {"put 3 -5", changes(3, put(num(-5)))}, {"put 999999999 999999999", changes(999999999, put(num(999999999)))}, {"put 1 -999999999", changes(1, put(num(-999999999)))},
		{`put 0 ""`, changes(0, put(text("")))}, {`put 0 "a"`, changes(0, put(text("a")))}, {`put 0 "a b"`, changes(0, put(text("a b")))}, {`put 0 "a  b"`, changes(0, put(text("a  b")))}, {`put 0 "   a    b  c   "`, changes(0, put(text("   a    b  c   ")))},
		{`put 0 " a"`, changes(0, put(text(" a")))}, {`put 0 "a "`, changes(0, put(text("a ")))}, {`put 0 " "`, changes(0, put(text(" ")))}, {`put 0 "  "`, changes(0, put(text("  ")))}, {`put 0 "` + strings.Repeat(" ", 40) + `"`, changes(0, put(text(strings.Repeat(" ", 40))))}, {`put 8 "` + full + `"`, changes(8, put(text(full)))},
		{`put 0 "5"`, changes(0, put(text("5")))}, {`put 0 "-5"`, changes(0, put(text("-5")))}, {`put 0 "tell 0"`, changes(0, put(text("tell 0")))}, {`put 0 "x by 1"`, changes(0, put(text("x by 1")))}, {`put 0 "\n#'~!"`, changes(0, put(text(`\n#'~!`)))},
		{"add 0 0", changes(0, add(0))}, {"add 2 -1", changes(2, add(-1))}, {"add 10 999999999", changes(10, add(999999999))}, {`add 0 "a  b"`, changes(0, impl.Change{Kind: 2, Msg: text("a  b")})},
		{`join 0 ""`, changes(0, joinOn(""))}, {`join 4 "x  y "`, changes(4, joinOn("x  y "))}, {`join 999999999 "` + full + `"`, changes(999999999, joinOn(full))}, {"join 0 -7", changes(0, impl.Change{Kind: 3, Msg: num(-7)})},
		{"most 0 0", changes(0, mostOf(num(0)))}, {"most 1 -5", changes(1, mostOf(num(-5)))}, {`most 0 "  "`, changes(0, mostOf(text("  ")))}, {`most 999999999 "z"`, changes(999999999, mostOf(text("z")))},
		{"pub a 0", publishes("a", num(0))}, {"pub a.> 7", publishes("a.>", num(7))}, {"pub * -1", publishes("*", num(-1))}, {"pub > 1", publishes(">", num(1))}, {"pub 0 0", publishes("0", num(0))}, {"pub 7 999999999", publishes("7", num(999999999))}, {"pub *.a9.*.> -999999999", publishes("*.a9.*.>", num(-999999999))},
		{`pub a.b ""`, publishes("a.b", text(""))}, {`pub a.b "a  b"`, publishes("a.b", text("a  b"))}, {`pub a " x "`, publishes("a", text(" x "))}, {`pub sub "if num"`, publishes("sub", text("if num"))},
		{"pub " + strings.Repeat("k", 24) + ` "` + full + `"`, publishes(strings.Repeat("k", 24), text(full))}, {"pub " + strings.Repeat("*.", 11) + "> 3", publishes(strings.Repeat("*.", 11)+">", num(3))},
	}
}

// subRows have filters of one term and of more, up to as many as there may be.
func subRows() []rowCase {
	long := slices.Concat(slices.Repeat(allOf(starts("abcdefghij")), 6), slices.Repeat(allOf(bare(9)), 5), allOf(bare(8)))
	return []rowCase{
		{"sub 0", subscribes(0, 0, nil)}, {"sub 11", subscribes(11, 0, nil)}, {"sub 999999999", subscribes(999999999, 0, nil)},
		{"sub 0 back", subscribes(0, 1, nil)}, {"sub 999999999 back", subscribes(999999999, 1, nil)},
		{"sub 0 if all", subscribes(0, 0, allOf(bare(1)))}, {"sub 1 if num", subscribes(1, 0, allOf(bare(2)))}, {"sub 0 if text", subscribes(0, 0, allOf(bare(3)))}, {"sub 0 if <-5", subscribes(0, 0, allOf(below(-5)))}, {"sub 0 if %3", subscribes(0, 0, allOf(dividedBy(3)))}, {"sub 0 if ^back", subscribes(0, 0, allOf(starts("back")))}, {"sub 0 if ~if", subscribes(0, 0, allOf(holds("if")))},
		{"sub 0 if num !", subscribes(0, 0, allOf(bare(2), bare(8)))}, {"sub 0 if <10 %3 &", subscribes(0, 0, allOf(below(10), dividedBy(3), bare(9)))}, {"sub 5 if ^ab ~c | !", subscribes(5, 0, allOf(starts("ab"), holds("c"), bare(10), bare(8)))}, {"sub 0 if all ! ! ! ! ! ! ! ! ! ! !", subscribes(0, 0, nots(12))},
		{"sub 0 back if all", subscribes(0, 1, allOf(bare(1)))}, {"sub 1 back if num !", subscribes(1, 1, allOf(bare(2), bare(8)))}, {"sub 999999999 back if <0", subscribes(999999999, 1, allOf(below(0)))}, {"sub 2 back if text num | %999999999 &", subscribes(2, 1, allOf(bare(3), bare(2), bare(10), dividedBy(999999999), bare(9)))},
		{"sub 999999999 back if " + strings.Repeat("^abcdefghij ", 6) + "& & & & & !", subscribes(999999999, 1, long)},
	}
}

func handRows() []rowCase {
	return slices.Concat(bareRows(), tokenRows(), msgRows(), subRows())
}

func sameCall(a impl.Call, b impl.Call) bool {
	return a.Op == b.Op && a.A == b.A && a.B == b.B && a.Tok == b.Tok && a.Name == b.Name && a.Msg == b.Msg && slices.Equal(a.Filter, b.Filter)
}

func TestProgramConstants(t *testing.T) {
	if impl.MaxProg != 30 || impl.MaxRow != 160 {
		t.Error("constants", impl.MaxProg, impl.MaxRow)
	}
}

func TestRowsByHand(t *testing.T) {
	verbs := map[string]int{}
	for _, x := range handRows() {
		if s, ok := impl.CallText(x.c); !ok || s != x.s {
			t.Errorf("the text of %+v: %q, %v; want %q", x.c, s, ok, x.s)
		}
		if c, ok := impl.ReadCall(x.s); !ok || !sameCall(c, x.c) {
			t.Errorf("%q is read as %+v, %v", x.s, c, ok)
		}
		verb, _, _ := strings.Cut(x.s, " ")
		verbs[verb]++
	}
	// Nineteen ops, of which one has four.
	if len(verbs) != 22 {
		t.Error("how many verbs", verbs)
	}
}

// otherRows are the texts of no call.
func otherRows() []string {
	return slices.Concat(otherVerbs(), otherNumbers(), otherTokens(), otherMessages(), otherSubs(), rowsTooLong())
}

func otherVerbs() []string {
	return []string{
		"", " ", "  ", "\n", "\x00", "0", "1", "?", "-", "\"", "fly", "fly 1", "nop", "tel 0", "tells 0", "Tell 0", "TELL 0", "tELL 0", "tell_all 0", "tell all 0", "tellal 0", "tellalll 0", "awaits 0", "wait 0", "raised 0", "set 0", "stands 0", "count 0", "latc 0", "update 0 1", "puts 0 1", "pu 0 1", "sum 0 1", "append 0 1", "max 0 1", "looks 0", "see 0", "shutt 0", "close", "publish a 1", "subscribe 0", "receive 0", "rec 0", "unsubs 0", "un sub 0", "closes 0", "abort 0", "timers 0 0", "sleep 1", "by 0", "back", "if all", "if", "by", "all",
		"tell", "tellall", "await", "raise", "reset", "stand", "down", "latch", "put", "add", "join", "most", "look", "watch", "shut", "pub", "sub", "recv", "unsub", "cancel", "timer",
		"tell ", "await ", "down ", "put ", "pub ", "sub ", "recv ", "timer ", " tell", " tell 0", "  tell 0", "\ttell 0", "\ntell 0", "\ufefftell 0", "tell0", "tell-0", "tell\t0", "tell\n0", "tell\x000", "tell\u00a00", "tell:0", "tell,0", "tell=0", "tell(0)", "tell 0;", "tell 0\n", "tell 0\r", "tell 0\x00", "# tell 0", "tell 0 #", "0 tell", "tell tell 0", "tell 0 tell 0", "tell 0\ntell 0", "tell 0 0", "tellall 0 0", "raise 0 0", "reset 0 1", "look 0 0", "shut 0 1", "unsub 0 0", "close 0 1", "cancel 0 0", "await 0 0", "stand 0 1", "latch 0 1", "watch 0 0", "recv 0 1", "sub 0 1",
	}
}

// otherNumbers have something else in the place of a number.
func otherNumbers() []string {
	var list []string
	for _, n := range []string{
		"", " ", "-", "+", "-1", "-0", "+0", "+1", "00", "01", "007", "0999999999", "1000000000", "1234567890", "9999999999", "9223372036854775807", "9223372036854775808", "18446744073709551616", "-999999999", "-1000000000", "1.0", "1e1", "0x1", "1_0", "a", "one", "1a", "a1", "*", "?", "\"1\"", "1,", "1\t", "\t1", "1\x00", "\x001", "\xff", "1\xff", "\u0661", "\uff11", "\u00b2", "1\u0301", "\u00a01", strings.Repeat("9", 100),
	} {
		list = append(list, "tell "+n, "tellall "+n, "await "+n, "await "+n+" by 0", "await 0 by "+n, "raise "+n, "reset "+n, "stand "+n, "stand 0 by "+n, "down "+n+" 1", "down 1 "+n, "latch "+n, "latch 0 by "+n, "put "+n+" 1", `add `+n+` "a"`, "join "+n+` ""`, "most "+n+" 0", "look "+n, "watch "+n, "watch 0 by "+n, "shut "+n, "sub "+n, "sub "+n+" back", "sub "+n+" if all", "recv "+n, "recv 0 by "+n, "unsub "+n, "close "+n, "cancel "+n, "timer "+n+" 1", "timer 1 "+n)
	}
	return append(list, "down 1", "down 1 ", "timer 5", "timer 5 ", "down 1 2 3", "timer 1 2 3", "down  1 2", "down 1  2", "down 1 2 ", "timer  1 2", "timer 1  2", "timer 1 2 ", "down 1 by 2", "timer 1 2 by 0")
}

// otherTokens have `by` where it is none, or something else where it is one.
func otherTokens() []string {
	var list []string
	for _, s := range []string{"tell 0", "tellall 0", "raise 0", "reset 0", "down 0 1", "put 0 1", "add 0 1", "join 0 \"\"", "most 0 1", "look 0", "shut 0", "pub a 1", "sub 0", "sub 0 back", "sub 0 if all", "unsub 0", "close 0", "cancel 0", "timer 1 0"} {
		list = append(list, s+" by", s+" by ", s+" by 0", s+" by 1", s+" 0 by 0")
	}
	for _, s := range []string{"await 0", "stand 1", "latch 2", "watch 3", "recv 4"} {
		list = append(list, s+" ", s+"  ", s+" by", s+" by ", s+" by  ", s+" by  1", s+"  by 1", s+" by 1 ", s+" by 1  ", s+" by 1 2", s+" by 1 by 2", s+" by by", s+" by 0 0", s+" By 1", s+" BY 1", s+" bye 1", s+" b 1", s+" by1", s+"by 1", s+" 1 by", s+" 1", s+" back", s+" if all", s+" by -1", s+" by 00", s+" by 01", s+" by +1", s+" by -0", s+" by 1000000000", s+" by 1234567890", s+" by 0000000001", s+"\tby 1", s+" by\t1", s+" by 1\n", s+" \"by\" 1", s+" to 1", s+" by 1 if all")
	}
	return append(list, "await by 1", "await by", "by 1 await 0", "recv by 1")
}

func otherMessages() []string {
	var list []string
	for _, s := range []string{"put 0", "add 1", "join 2", "most 3", "pub a", "pub *.a.>"} {
		for _, m := range []string{
			"", " ", "  ", "x", "a b", "?", "-", "+1", "-0", "00", "01", "-01", "1000000000", "-1000000000", "1 ", " 1", "1 2", "1 1", "--1", "\"", "\"\"\"", "\"a", "a\"", "\"a\" ", " \"a\"", "\"a\" \"b\"", "\"a\"b", "\"a\"\"b\"", "\"a\n\"", "\"a\t\"", "\"\x00\"", "\"\x1f\"", "\"\x7f\"", "\"\x80\"", "\"\xff\"", "\"é\"", "\"a\"\n", "'a'", "a  b", "\"" + strings.Repeat("m", 41) + "\"", "\"a\" by 0", "1 by 0", "1 if all", "by 0",
		} {
			list = append(list, s+" "+m)
		}
		list = append(list, s, s+"1", s+"\"a\"", s+"\t1", s+"\n1", s+"-5")
	}
	for _, name := range []string{"", " ", "A", "aB", ".", "a.", ".a", "a..b", ">.a", "a>", "**", "*a", "a b", "\"a\"", "-1", "a_b", "a-b", "a\t", "\ta", "a\x00", "\x7f", "\xff", "a.\x80", "é", "a\u00a0", strings.Repeat("k", 25), strings.Repeat("*.", 12) + ">"} {
		list = append(list, "pub "+name+" 1", "pub "+name+` "a  b"`, "pub "+name)
	}
	return append(list, "pub 1", "pub \"a\"", "pub  a 1", "pub a  1", "pub 1 a", "pub a a 1", "pub a a", "put 1", "put \"a\"", "put \"a\" 0", "put 0 0 0", "put 0 1 \"a\"", "put  0 1", "put 0  \"a  b\"", "put  0 \"a  b\"", "put a 1", "put -1 1", "add 0", "put 0 put 1")
}

// otherSubs have no filter behind `if`, or `back` where it is none.
func otherSubs() []string {
	var list []string
	for _, s := range []string{"sub 0", "sub 7 back"} {
		for _, f := range []string{
			"", " ", "  ", "x", "All", "all ", " all", "all  !", "all !  ", "all ! ", "!", "&", "all all", "all &", "nums", "<", "<-0", "<01", "<1000000000", "%0", "%", "%-1", "^", "^A", "^abcdefghijk", "~", "~a1", "back", "all back", "if", "if all", "by 0", "all by 0", "all\n", "\nall", "all\t!", "\"all\"", "all !\x00", "\xff", "~\x80", "^é", "5", "num if all", "all" + strings.Repeat(" !", 12),
		} {
			list = append(list, s+" if "+f)
		}
		list = append(list, s+" ", s+"  ", s+" if", s+" If all", s+" iff all", s+" all", s+" num !", s+"  if all", s+" if  all", s+" ifall", s+"if all", s+" back back", s+" if back", s+" if all if all", s+" where all", s+"\tif all", s+" if\tall", s+" !")
	}
	return append(list, "sub 0 if all back", "sub 0 if num ! back", "sub 0 back if all back", "sub 0 back back if all", "sub back 0", "sub back", "sub if all", "sub 0  back", "sub 0 back ", "sub 0 back  ", "sub 0 Back", "sub 0 bac", "sub 0 backs", "sub 0back", "sub 0 backif all", "sub 0 back  if all", "sub 0 back 1", "sub 0 0", "sub 0 1", "sub 0 0 back", "sub 0 b", "sub  0 back", "sub 0\tback", "sub 0 back\n", "sub 0 \xff", "sub 0 ba\x00ck", "sub a if all", "tell 0 back", "recv 0 back", "unsub 0 back", "close 0 if all")
}

// rowsTooLong have MaxRow bytes, one less and one more, and many more: no call's text is as long.
func rowsTooLong() []string {
	var list []string
	for _, n := range []int{159, 160, 161, 162, 320, 100000} {
		fill := func(head string, with string, tail string) {
			s := head
			for len(s)+len(with)+len(tail) <= n {
				s += with
			}
			list = append(list, (s + strings.Repeat(" ", n))[:n-len(tail)]+tail)
		}
		if n > 1000 {
			list = append(list, strings.Repeat("tell 0 ", n/7), strings.Repeat(" ", n), "tell "+strings.Repeat("0", n), "tell 0"+strings.Repeat(" ", n), `put 0 "`+strings.Repeat(" ", n)+`"`, "sub 0 if all"+strings.Repeat(" !", n), "pub "+strings.Repeat("a", n)+" 1")
			continue
		}
		fill("tell ", "0", "")
		fill("tell ", "9", "1")
		fill("tell 0", " ", "")
		fill("", " ", "tell 0")
		fill("tell", " ", "0")
		fill("await 0 by ", "0", "1")
		fill(`put 0 "`, "m", `"`)
		fill(`put 0 "`, " ", `"`)
		fill("put 0 ", " ", "1")
		fill("pub ", "a", " 1")
		fill("pub a.", "b.", `> "m"`)
		fill("sub 0 if all", " !", "")
		fill("sub 0 back if all", " all &", "")
		fill("sub 0 if ", "num ", "num &")
		fill("sub 0", " back", "")
		fill("tell 0", " by 0", "")
		fill("down 0 ", "1", "")
		fill("é", "é", "")
		fill("", "\xff", "")
		fill("", "\x00", "")
	}
	return list
}

func TestOtherRowsAreNotRead(t *testing.T) {
	list := otherRows()
	for _, s := range list {
		if c, ok := impl.ReadCall(s); ok || !sameCall(c, impl.Call{}) {
			t.Errorf("%.200q, %d bytes, is read as %+v, %v", s, len(s), c, ok)
		}
	}
	if len(list) < 1500 {
		t.Error("how many", len(list))
	}
}

// TestTheLongestRows has the greatest of all that is written; there is none as long as MaxRow.
func TestTheLongestRows(t *testing.T) {
	most := 0
	for _, x := range handRows() {
		most = max(most, len(x.s))
	}
	if most != 105 {
		t.Error("the longest row", most)
	}
}

// unwritten are calls without a text: a number that is written is not 0 .. MaxNum.
func unwritten() []impl.Call {
	var list []impl.Call
	for _, n := range []int{-1, -2, 1000000000, 1000000001, -999999999, -1000000000, math.MinInt, math.MaxInt, 1 << 32, 1<<32 + 1} {
		for _, op := range []int{1, 2, 3, 4, 5, 6, 7, 8, 10, 11, 12, 14, 17, 18, 19} {
			list = append(list, asks(op, n))
		}
		for _, op := range []int{3, 6, 8, 11} {
			list = append(list, byToken(asks(op, n), 0))
		}
		for kind := 1; kind <= 4; kind++ {
			list = append(list, changes(n, impl.Change{Kind: kind, Msg: num(1)}), changes(n, impl.Change{Kind: kind, Msg: text("a")}))
		}
		list = append(list, asksWith(7, n, 1), asksWith(7, 1, n), asksWith(7, n, n), asksWith(19, n, 1), asksWith(19, 1, n), asksWith(19, n, n), takes(15, n), takes(16, n), byToken(takes(15, n), 1), subscribes(n, 1, nil), subscribes(n, 0, allOf(bare(1))), subscribes(n, 1, nots(12)))
	}
	// Below 0 a Tok is not written, or not right.
	for _, n := range []int{1000000000, 1000000001, 1 << 32, math.MaxInt} {
		for _, op := range []int{3, 6, 8, 11} {
			list = append(list, byToken(asks(op, 0), n), byToken(asks(op, 7), n), byToken(asks(op, n), n))
		}
		list = append(list, byToken(takes(15, 0), n), byToken(takes(15, 7), n), byToken(takes(15, n), n))
	}
	return list
}

// notCalls are not CallOk, though each number of them could be written.
func notCalls() []impl.Call {
	list := []impl.Call{
		{}, {Tok: -1}, {Op: 20, Tok: -1}, {Op: -1, Tok: -1}, {Op: 257, Tok: -1}, {Op: math.MaxInt, Tok: -1}, {Op: math.MinInt, Tok: -1}, {Op: 1}, {Op: 1, Tok: 5}, {Op: 16, Tok: 0}, {Op: 19}, {Op: 14}, {Op: 13, Name: "a", Msg: num(1)}, {Op: 9, B: 1, Msg: num(1)},
		asksWith(1, 0, 1), asksWith(3, 0, 1), asksWith(10, 0, 1), asksWith(17, 0, 1), asksWith(18, 0, 2), asks(13, 1), asks(15, 1), asks(16, 1), {Op: 15, A: 1, B: 1, Tok: -1}, {Op: 13, A: 1, Tok: -1, Name: "a", Msg: num(1)}, {Op: 13, B: 1, Tok: -1, Name: "a", Msg: num(1)},
		byToken(asks(3, 0), -2), byToken(asks(6, 0), -5), byToken(asks(8, 0), math.MinInt), byToken(asks(11, 0), -2), byToken(takes(15, 0), -2),
		subscribes(0, 2, nil), subscribes(0, -1, nil), subscribes(0, 0, allOf(bare(0))), subscribes(0, 0, allOf(bare(8))), subscribes(0, 1, nots(13)), subscribes(0, 1, allOf(bare(1), bare(1))), subscribes(0, 0, allOf(starts(""))), subscribes(0, 0, allOf(below(1000000000))), subscribes(0, 0, allOf(dividedBy(0))), subscribes(0, 0, allOf(holds("a b"))),
		publishes("", num(1)), publishes("a.", num(1)), publishes("A", num(1)), publishes("a b", num(1)), publishes(">.a", num(1)), publishes(strings.Repeat("a", 25), num(1)), publishes("a", impl.Msg{}), publishes("a", num(1000000000)), publishes("a", text("\"")), publishes("a", text("\n")), publishes("a", text(strings.Repeat("m", 41))),
		{Op: 1, Tok: -1, Name: "a"}, {Op: 1, Tok: -1, Msg: num(0)}, {Op: 1, Tok: -1, Filter: allOf(bare(1))}, {Op: 3, Tok: 0, Name: "a"}, {Op: 15, Tok: 0, Filter: allOf(bare(1))}, {Op: 14, Tok: -1, Name: "a"}, {Op: 14, Tok: -1, Msg: text("a")}, {Op: 13, Tok: -1, Name: "a", Msg: num(1), Filter: allOf(bare(1))}, {Op: 9, B: 1, Tok: -1, Msg: num(1), Name: "a"}, {Op: 19, A: 1, B: 1, Tok: 0},
	}
	for _, kind := range []int{0, 5, -1, math.MaxInt, math.MinInt} {
		list = append(list, changes(0, impl.Change{Kind: kind, Msg: num(1)}))
	}
	for kind := 1; kind <= 4; kind++ {
		for _, m := range []impl.Msg{{}, {Kind: 3}, num(1000000000), num(-1000000000), text("\""), text("\x00"), text("é"), {Kind: 1, Num: 1, Text: "1"}, {Kind: 2, Num: 1, Text: "1"}} {
			list = append(list, changes(0, impl.Change{Kind: kind, Msg: m}))
		}
	}
	return list
}

func TestCallsWithoutAText(t *testing.T) {
	for _, c := range unwritten() {
		if !impl.CallOk(c) {
			t.Errorf("the test's own call is not right: %+v", c)
		}
	}
	for _, c := range notCalls() {
		if impl.CallOk(c) {
			t.Errorf("the test's own call is right: %+v", c)
		}
	}
	for _, c := range append(unwritten(), notCalls()...) {
		if s, ok := impl.CallText(c); ok || s != "" {
			t.Errorf("the text of %+v: %q, %v", c, s, ok)
		}
	}
}

// progOf is a program's text, and its calls.
func progOf(list ...rowCase) (string, []impl.Call) {
	s := ""
	var calls []impl.Call
	for _, x := range list {
		s += x.s + "\n"
		calls = append(calls, x.c)
	}
	return s, calls
}

func samePrograms(a []impl.Call, b []impl.Call) bool { return slices.EqualFunc(a, b, sameCall) }

func TestProgramsByHand(t *testing.T) {
	all := handRows()
	lists := [][]rowCase{nil, {}, {{"tell 0", asks(1, 0)}}, {{"await 0 by 1", byToken(asks(3, 0), 1)}, {"tell 0", asks(1, 0)}}, {{"tell 0", asks(1, 0)}, {"tell 0", asks(1, 0)}}, {{`put 0 "a  b"`, changes(0, put(text("a  b")))}, {"sub 1 back if num !", subscribes(1, 1, allOf(bare(2), bare(8)))}, {"sub 1 if num !", subscribes(1, 0, allOf(bare(2), bare(8)))}}}
	for n := 1; n <= 30; n++ {
		lists = append(lists, all[:n], all[len(all)-n:], slices.Repeat(subRows()[19:20], n))
	}
	for i := 0; i+30 <= len(all); i++ {
		lists = append(lists, all[i:i+30])
	}
	for _, x := range lists {
		s, calls := progOf(x...)
		if told, ok := impl.ProgText(calls); !ok || told != s {
			t.Errorf("the text of %d calls: %q, %v; want %q", len(calls), told, ok, s)
		}
		if read, n := impl.ReadProg(s); n != -1 || !samePrograms(read, calls) {
			t.Errorf("%q is read as %+v, %d", s, read, n)
		}
	}
}

func TestProgramsWithoutAText(t *testing.T) {
	_, thirty := progOf(handRows()[10:40]...)
	for _, n := range []int{31, 32, 33, 60, 1000} {
		list := slices.Repeat(thirty, n/30+1)[:n]
		for _, calls := range [][]impl.Call{list, append(slices.Clone(list[:n-1]), impl.Call{}), append([]impl.Call{{}}, list[1:]...), make([]impl.Call, n)} {
			if s, ok := impl.ProgText(calls); ok || s != "" {
				t.Errorf("the text of %d calls: %.60q, %v", len(calls), s, ok)
			}
		}
	}
	for i, c := range append(unwritten(), notCalls()...) {
		for _, n := range []int{1, 2, 3, 29, 30} {
			for _, at := range []int{0, n / 2, n - 1} {
				calls := slices.Clone(thirty[:n])
				calls[at] = c
				if s, ok := impl.ProgText(calls); ok || s != "" {
					t.Fatalf("%d: the text with %+v at %d of %d: %q, %v", i, c, at, n, s, ok)
				}
			}
		}
	}
}

func TestLinesThatAreNoneByHand(t *testing.T) {
	thirty := strings.Repeat("tell 0\n", 30)
	long := `put 0 "` + strings.Repeat("m", 160) + "\"\n"
	for s, want := range map[string]int{
		"tell 0": 0, "tell 0\ntell 0": 1, "tell 0\ntell 0\ntell 0": 2, "tell": 0, "x": 0, " ": 0, "\x00": 0, "\xff": 0, "tell 0\n ": 1, "tell 0\n\x00": 1, "tell 0\n\xff": 1, "tell 0\nt": 1,
		"\n": 0, "\n\n": 0, "\ntell 0\n": 0, "tell 0\n\n": 1, "tell 0\n\ntell 0\n": 1, "\ntell 0": 0, "tell 0\n\ntell 0": 1, "tell 0\n\n\n": 1, "tell 0\ntell 0\n\n": 2, "\n\ntell 0\n": 0,
		"fly\n": 0, "fly": 0, "fly\nfly\n": 0, "tell 0\nfly\n": 1, "tell 0\nfly\ntell": 1, "tell 0\ntell 0\nfly\n": 2, "fly\ntell 0\n": 0, "tell 0\nfly\nfly\n": 1, "tell 0\nfly\n\n": 1, "tell 0\n\nfly\n": 1, "tell 0\nfly\ntell 0": 1, "tell 0\nfly": 1,
		"tell 0 \n": 0, " tell 0\n": 0, "tell 0\r\n": 0, "tell 0\ntell 0\r\n": 1, "tell 0\n\rtell 0\n": 1, "tell 0\n \n": 1, "tell 0\n\t\n": 1, "# note\n": 0, "tell 0\n#\n": 1, "tell 0;tell 0\n": 0, "tell 0\\ntell 0\n": 0, "tell 0\u2028tell 0\n": 0, "tell 0\u0085tell 0\n": 0, "tell 0\x0btell 0\n": 0, "tell 0\x00\n": 0, "\x00tell 0\n": 0, "tell 0\n\x00\n": 1, "tell 0\n\xff\n": 1, "tell 0\n\xe2\ntell 0\n": 1, "tell 0\xe2\ntell 0\n": 0, "tell 0\xe2\x80\ntell 0\n": 0,
		"put 0 \"a\nb\"\n": 0, "tell 0\nput 0 \"a\nb\"\n": 1, "put 0 \"a\n\"\n": 0, "tell\n0\n": 0, "sub 0 if num\n!\n": 1, "sub 0\nif num\n": 1, "await 0\nby 1\n": 1, "await 0 by\n1\n": 0,
		thirty: -1, thirty + "tell 0\n": 30, thirty + "tell 0": 30, thirty + "t": 30, thirty + "\n": 30, thirty + "fly\n": 30, thirty + "fly": 30, thirty + " ": 30, thirty + thirty: 30, thirty + "fly\nfly\n": 30, "fly\n" + thirty: 0, thirty[7:] + "fly\n": 29, thirty[7:] + "fly": 29, thirty[7:] + "\n": 29, thirty[7:] + "tell 0": 29, thirty[7:] + "fly\ntell 0\n": 29, thirty[:7*15] + "fly\n" + thirty: 15, thirty[:len(thirty)-1]: 29, strings.Repeat(thirty, 1000): 30,
		long: 0, "tell 0\n" + long: 1, "tell 0\n" + long + "tell 0\n": 1, thirty[7:] + long: 29, thirty + long: 30, long[:len(long)-1]: 0, "tell 0\n" + strings.Repeat("m", 1000000): 1, strings.Repeat("\n", 100000): 0, strings.Repeat("tell 0 ", 100000): 0,
	} {
		list, n := impl.ReadProg(s)
		if n != want || want != -1 && len(list) != 0 || want == -1 && len(list) != 30 {
			t.Errorf("%.80q, %d bytes: %d calls, %d; want %d", s, len(s), len(list), n, want)
		}
	}
	if list, n := impl.ReadProg(""); len(list) != 0 || n != -1 {
		t.Error("the empty text", list, n)
	}
}
