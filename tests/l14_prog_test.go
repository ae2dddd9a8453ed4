package tests

import (
	"fmt"
	"math"
	"regexp"
	"slices"
	"strconv"
	"strings"
	"testing"

	"loop.example/g00098/impl"
)

// rowForm is a second way to tell what the text of a call is: its verb, what stands behind it, and the call that no more is known of.
type rowForm struct {
	verb, parts string
	c           impl.Call
	form        *regexp.Regexp
}

// partForms has a form for each part of a row: A and B are numbers, T is a token, N a pattern, M a message, F what is asked for at a topic.
var partForms = map[rune]string{
	'A': ` (?P<A>0|[1-9][0-9]{0,8})`, 'B': ` (?P<B>0|[1-9][0-9]{0,8})`, 'T': `(?: by (?P<T>0|[1-9][0-9]{0,8}))?`, 'N': ` (?P<N>[a-z0-9.*>]{1,24})`,
	'M': ` (?:(?P<M>0|-?[1-9][0-9]{0,8})|"(?P<Q>[ !#-~]{0,40})")`, 'F': `(?P<K> back)?(?: if (?P<F>[ -~]+))?`,
}

var rowForms = formsOf(
	rowForm{verb: "tell", parts: "A", c: asks(1, 0)}, rowForm{verb: "tellall", parts: "A", c: asks(2, 0)}, rowForm{verb: "await", parts: "AT", c: asks(3, 0)}, rowForm{verb: "raise", parts: "A", c: asks(4, 0)}, rowForm{verb: "reset", parts: "A", c: asks(5, 0)}, rowForm{verb: "stand", parts: "AT", c: asks(6, 0)},
	rowForm{verb: "down", parts: "AB", c: asks(7, 0)}, rowForm{verb: "latch", parts: "AT", c: asks(8, 0)}, rowForm{verb: "put", parts: "AM", c: asksWith(9, 0, 1)}, rowForm{verb: "add", parts: "AM", c: asksWith(9, 0, 2)}, rowForm{verb: "join", parts: "AM", c: asksWith(9, 0, 3)}, rowForm{verb: "most", parts: "AM", c: asksWith(9, 0, 4)},
	rowForm{verb: "look", parts: "A", c: asks(10, 0)}, rowForm{verb: "watch", parts: "AT", c: asks(11, 0)}, rowForm{verb: "shut", parts: "A", c: asks(12, 0)}, rowForm{verb: "pub", parts: "NM", c: asks(13, 0)}, rowForm{verb: "sub", parts: "AF", c: asks(14, 0)}, rowForm{verb: "recv", parts: "BT", c: asks(15, 0)},
	rowForm{verb: "unsub", parts: "B", c: asks(16, 0)}, rowForm{verb: "close", parts: "A", c: asks(17, 0)}, rowForm{verb: "cancel", parts: "A", c: asks(18, 0)}, rowForm{verb: "timer", parts: "AB", c: asks(19, 0)},
)

func formsOf(list ...rowForm) []rowForm {
	for i, x := range list {
		form := `\A` + x.verb
		for _, part := range x.parts {
			form += partForms[part]
		}
		list[i].form = regexp.MustCompile(form + `\z`)
	}
	return list
}

// filled has in parts what stands in the places that the form names; false where what stands there is not right.
func filled(c impl.Call, names []string, parts []string, found []int) (impl.Call, bool) {
	for i, name := range names {
		// A part that is left out is found nowhere, an empty message is.
		if name == "" || found[2*i] < 0 {
			continue
		}
		n, _ := strconv.Atoi(parts[i])
		switch name {
		case "A":
			c.A = n
		case "B":
			c.B = n
		case "T":
			c.Tok = n
		case "N":
			c.Name = parts[i]
		case "M":
			c.Msg = num(n)
		case "Q":
			c.Msg = text(parts[i])
		case "K":
			c.B = 1
		case "F":
			f, ok := termsOf(parts[i])
			if !ok {
				return impl.Call{}, false
			}
			c.Filter = f
		}
	}
	return c, c.Op != 13 || patternIsRight(c.Name)
}

// callBy reads a row by the forms.
func callBy(s string) (impl.Call, bool) {
	if len(s) > 160 {
		return impl.Call{}, false
	}
	verb, _, _ := strings.Cut(s, " ")
	for _, x := range rowForms {
		if x.verb != verb {
			continue
		}
		if parts := x.form.FindStringSubmatch(s); parts != nil {
			if c, ok := filled(x.c, x.form.SubexpNames(), parts, x.form.FindStringSubmatchIndex(s)); ok {
				return c, true
			}
		}
	}
	return impl.Call{}, false
}

// rowBy writes a call part by part.
func rowBy(c impl.Call) (string, bool) {
	if !callIsRight(c) {
		return "", false
	}
	at := slices.IndexFunc(rowForms, func(x rowForm) bool { return x.c.Op == c.Op && (c.Op != 9 || x.c.B == c.B) })
	s, right := rowForms[at].verb, true
	number := func(n int) {
		right = right && n >= 0 && n < 1000000000
		s += fmt.Sprintf(" %d", n)
	}
	for _, part := range rowForms[at].parts {
		switch {
		case part == 'A':
			number(c.A)
		case part == 'B':
			number(c.B)
		case part == 'T' && c.Tok != -1:
			s += " by"
			number(c.Tok)
		case part == 'N':
			s += " " + c.Name
		case part == 'M' && c.Msg.Kind == 1:
			s += fmt.Sprintf(" %d", c.Msg.Num)
		case part == 'M':
			s += ` "` + c.Msg.Text + `"`
		case part == 'F':
			s += strings.Repeat(" back", c.B)
			if len(c.Filter) > 0 {
				s += " if " + toldAs(c.Filter)
			}
		}
	}
	if !right {
		return "", false
	}
	return s, true
}

// progBy cuts a text at each byte 10.
func progBy(s string) ([]impl.Call, int) {
	var list []impl.Call
	lines := strings.SplitAfter(s, "\n")
	for i, line := range lines {
		row, ended := strings.CutSuffix(line, "\n")
		c, ok := callBy(row)
		switch {
		case i == len(lines)-1 && line == "":
			return list, -1
		case !ended || !ok || i == 30:
			return nil, i
		}
		list = append(list, c)
	}
	return list, -1
}

func progTextBy(list []impl.Call) (string, bool) {
	s := ""
	for i, c := range list {
		row, ok := rowBy(c)
		if !ok || i == 30 {
			return "", false
		}
		s += row + "\n"
	}
	return s, true
}

var fillCall = impl.Call{Op: filler, A: filler, B: filler, Tok: filler, Name: "filler", Filter: allOf(fillTerm)}

func roomyCalls(list []impl.Call) []impl.Call {
	return roomyEach(list, fillCall, func(c impl.Call) impl.Call {
		c.Filter = littleRoom(c.Filter, fillTerm)
		return c
	})
}

// wholeCalls has the room behind the list, and behind the Filter of each call, as a part of it; it is the same memory.
func wholeCalls(list []impl.Call) []impl.Call {
	return cloneEach(roomOf(list), func(c impl.Call) impl.Call {
		c.Filter = roomOf(c.Filter)
		return c
	})
}

// callPlaces is where a number can be laid into calls and their Filters, and into the room behind them.
func callPlaces(list []impl.Call) []*int {
	return placesIn(list, func(c *impl.Call) []*int {
		return append([]*int{&c.Op, &c.A, &c.B, &c.Tok, &c.Msg.Kind, &c.Msg.Num}, placesIn(c.Filter, func(x *impl.Term) []*int { return []*int{&x.Op, &x.Num} })...)
	})
}

// spoilCalls changes all there is of an answer; it tells false where two lists of it share memory.
func spoilCalls(list []impl.Call) bool { return lieApart(callPlaces(list)) }

func cloneCalls(list []impl.Call) []impl.Call {
	return cloneEach(list, func(c impl.Call) impl.Call {
		c.Filter = slices.Clone(c.Filter)
		return c
	})
}

// checkCallText, and those behind it, hold a function against the second way, and look at the memory. They end the test, as a fault would be told very often.
func checkCallText(t *testing.T, c impl.Call) {
	t.Helper()
	given := roomyCalls([]impl.Call{c})
	kept := cloneCalls(wholeCalls(given))
	want, right := rowBy(c)
	for range 2 {
		if s, ok := impl.CallText(given[0]); ok != right || s != want {
			t.Fatalf("CallText(%s) = %q, %v; want %q, %v", brief(c), s, ok, want, right)
		}
	}
	if !samePrograms(wholeCalls(given), kept) {
		t.Fatalf("CallText writes into %s", brief(c))
	}
	if back, ok := impl.ReadCall(want); right && (!ok || !sameCall(back, c)) {
		t.Fatalf("%q is read as %s, %v; it is the text of %s", want, brief(back), ok, brief(c))
	}
}

func checkReadCall(t *testing.T, s string) {
	t.Helper()
	want, right := callBy(s)
	for range 2 {
		c, ok := impl.ReadCall(s)
		if ok != right || !sameCall(c, want) {
			t.Fatalf("ReadCall(%q) = %s, %v; want %s, %v", s, brief(c), ok, brief(want), right)
		}
		if back, told := impl.CallText(c); ok && (!told || back != s) {
			t.Fatalf("%q is read as %s, whose text is %q, %v", s, brief(c), back, told)
		}
		spoilCalls([]impl.Call{c})
	}
}

func checkProgText(t *testing.T, list []impl.Call) {
	t.Helper()
	given := roomyCalls(list)
	kept := cloneCalls(wholeCalls(given))
	want, right := progTextBy(list)
	for range 2 {
		if s, ok := impl.ProgText(given); ok != right || s != want {
			t.Fatalf("ProgText(%s) = %q, %v; want %q, %v", brief(list), s, ok, want, right)
		}
	}
	if !samePrograms(wholeCalls(given), kept) {
		t.Fatalf("ProgText writes into %s", brief(list))
	}
	if back, n := impl.ReadProg(want); right && (n != -1 || !samePrograms(back, list)) {
		t.Fatalf("%q is read as %s, %d; it is the text of %s", want, brief(back), n, brief(list))
	}
}

func checkReadProg(t *testing.T, s string) {
	t.Helper()
	want, line := progBy(s)
	for range 2 {
		list, n := impl.ReadProg(s)
		if n != line || !samePrograms(list, want) {
			t.Fatalf("ReadProg(%.300q) = %s, %d; want %s, %d", s, brief(list), n, brief(want), line)
		}
		if back, told := impl.ProgText(list); n == -1 && (!told || back != s) {
			t.Fatalf("%q is read as %s, whose text is %q, %v", s, brief(list), back, told)
		}
		if !spoilCalls(list) {
			t.Fatalf("the calls of %q share memory", s)
		}
	}
}

// TestTheFormsAreRight holds the second way against what is written out.
func TestTheFormsAreRight(t *testing.T) {
	for _, x := range handRows() {
		if c, ok := callBy(x.s); !ok || !sameCall(c, x.c) {
			t.Errorf("%q is read as %+v, %v", x.s, c, ok)
		}
		if s, ok := rowBy(x.c); !ok || s != x.s {
			t.Errorf("%+v is %q, %v", x.c, s, ok)
		}
	}
	for _, s := range otherRows() {
		if c, ok := callBy(s); ok {
			t.Errorf("%q is read as %+v", s, c)
		}
	}
	for _, c := range append(unwritten(), notCalls()...) {
		if s, ok := rowBy(c); ok {
			t.Errorf("%+v is %q", c, s)
		}
	}
}

// TestEachCallAtItsEdges has each number of each op at its edges and beside them, right ones and wrong ones.
func TestEachCallAtItsEdges(t *testing.T) {
	numbers := []int{math.MinInt, -1000000000, -999999999, -2, -1, 0, 1, 2, 3, 4, 5, 9, 10, 11, 99, 100, 99999999, 100000000, 999999998, 999999999, 1000000000, math.MaxInt}
	written := map[int]int{}
	for op := -1; op <= 21; op++ {
		for _, a := range numbers {
			for _, b := range numbers {
				for _, tok := range numbers {
					c := impl.Call{Op: op, A: a, B: b, Tok: tok}
					switch op {
					case 9:
						c.Msg = num(-7)
					case 13:
						c.Name, c.Msg = "a.*", text("a  b")
					}
					checkCallText(t, c)
					if _, ok := impl.CallText(c); ok {
						written[op]++
					}
				}
			}
		}
	}
	// Fifteen of these numbers can be written; as a Tok -1 is not, but right.
	if n := 15; written[1] != n || written[3] != n*(n+1) || written[7] != n*n || written[9] != 4*n || written[13] != 1 || written[14] != 2*n || written[15] != n*(n+1) || written[16] != n || written[19] != n*n || len(written) != 19 {
		t.Error("how many have a text", written)
	}
}

// TestEachPartOfACall has each message, pattern and filter, right ones and wrong ones.
func TestEachPartOfACall(t *testing.T) {
	for _, m := range append(rightMsgs(), wrongMsgs()...) {
		for kind := -1; kind <= 6; kind++ {
			checkCallText(t, changes(3, impl.Change{Kind: kind, Msg: m}))
		}
		checkCallText(t, publishes("a.*.>", m))
		checkCallText(t, impl.Call{Op: 1, Tok: -1, Msg: m})
		for _, verb := range []string{"put 0 ", "add 1 ", "join 22 ", "most 999999999 ", "pub a ", "pub > ", "tell ", "sub 0 if "} {
			checkReadCall(t, verb+impl.MsgText(m))
			checkReadCall(t, verb+`"`+m.Text+`"`)
			checkReadCall(t, verb+strconv.Itoa(m.Num))
		}
	}
	for _, s := range slices.Concat(rightNames(), rightPatterns(), wrongTexts()) {
		checkCallText(t, publishes(s, num(1)))
		checkCallText(t, publishes(s, text("a  b ")))
		checkReadCall(t, "pub "+s+" 1")
		checkReadCall(t, "pub "+s+` "a  b "`)
		checkReadCall(t, "pub "+s)
	}
	filters := slices.Concat(subFilters(), longFilters(), wrongFilters(), rightFilters(append(leaves(), takers()...), 3))
	for _, f := range filters {
		for _, back := range []int{-1, 0, 1, 2, math.MaxInt} {
			checkCallText(t, subscribes(3, back, f))
		}
		checkCallText(t, impl.Call{Op: 15, Tok: -1, Filter: f})
	}
	for _, s := range otherTexts() {
		for _, verb := range []string{"sub 0 if ", "sub 12 back if ", "sub 0 ", "sub 0 back "} {
			checkReadCall(t, verb+s)
			checkReadCall(t, verb+"all "+s)
		}
	}
}

// TestEachOddCallsText has fields set that an op does not name.
func TestEachOddCallsText(t *testing.T) {
	sets := []func(c *impl.Call){
		func(c *impl.Call) {}, func(c *impl.Call) { c.A = 1 }, func(c *impl.Call) { c.B = 1 }, func(c *impl.Call) { c.B = 4 }, func(c *impl.Call) { c.Tok = 0 }, func(c *impl.Call) { c.Tok = -2 }, func(c *impl.Call) { c.Name = "a" }, func(c *impl.Call) { c.Name = " " },
		func(c *impl.Call) { c.Msg = num(0) }, func(c *impl.Call) { c.Msg = text("") }, func(c *impl.Call) { c.Msg.Text = "a" }, func(c *impl.Call) { c.Filter = []impl.Term{} }, func(c *impl.Call) { c.Filter = allOf(bare(1)) }, func(c *impl.Call) { c.Filter = allOf(bare(0)) },
	}
	for _, op := range append(upTo(-1, 22), math.MinInt, math.MaxInt, 1<<32+1, 257) {
		for _, one := range sets {
			for _, two := range sets {
				for _, three := range sets {
					c := impl.Call{Op: op, Tok: -1}
					one(&c)
					two(&c)
					three(&c)
					checkCallText(t, c)
				}
			}
		}
	}
}

// TestEveryShortRowOfWords holds ReadCall against the forms, at all rows of a few pieces that matter.
func TestEveryShortRowOfWords(t *testing.T) {
	read := map[string]int{}
	see := func(s string) {
		checkReadCall(t, s)
		if c, ok := impl.ReadCall(s); ok {
			verb, _, _ := strings.Cut(s, " ")
			read[fmt.Sprint(verb, c.Op)]++
		}
	}
	for _, verb := range []string{"tell", "tellall", "await", "raise", "reset", "stand", "down", "latch", "put", "add", "join", "most", "look", "watch", "shut", "pub", "sub", "recv", "unsub", "close", "cancel", "timer", "fly", ""} {
		eachText([]string{" ", " 0", " 12", " by", " back", " if", " all", " \"\""}, 4, func(s string) { see(verb + s) })
		eachText([]string{" ", "0", "1", "-", "\"", "a", "*"}, 4, func(s string) { see(verb + " " + s) })
	}
	eachText([]string{"tell", "sub", "put", " ", "0", "\""}, 5, see)
	eachText([]string{" back", " if", " num", " !", " 0", " "}, 5, func(s string) { see("sub 0" + s) })
	if len(read) != 22 {
		t.Error("what was read", read)
	}
}

// oddPieces are bytes that no row has, and such as stand for others somewhere else.
func oddPieces() []string {
	return []string{"\x00", "\t", "\n", "\v", "\r", "\x1f", " ", "  ", "\"", "\x7f", "\x80", "\xa0", "\xc3", "\xe2", "\xe2\x80", "\xff", "\xc0\xb0", "\xed\xa0\x80", "\u00a0", "é", "\u0130", "\u2028", "\u3000", "\ufeff", "\ufffd", "\uff10", "\u0660", "\U0001d7d8", "0", "1", "9", "a", "z", "A", "-", "+", "_", ".", "*", ">", "!", "&", "|", "<", "%", "^", "~", "#", "/", ":", "`", "{"}
}

// TestEachPlaceOfARow changes right rows at each place: a byte is another piece, is left out, or a piece stands there besides.
func TestEachPlaceOfARow(t *testing.T) {
	for _, x := range handRows() {
		for i := range len(x.s) + 1 {
			for _, piece := range oddPieces() {
				checkReadCall(t, x.s[:i]+piece+x.s[i:])
				if i < len(x.s) {
					checkReadCall(t, x.s[:i]+piece+x.s[i+1:])
				}
			}
			if i < len(x.s) {
				checkReadCall(t, x.s[:i]+x.s[i+1:])
			}
			checkReadCall(t, x.s[:i])
			checkReadCall(t, x.s[i:])
		}
	}
}

// TestEachByteOfSomeRows has all bytes, at rows of each kind.
func TestEachByteOfSomeRows(t *testing.T) {
	for _, s := range []string{"tell 0", "await 2 by 0", "down 1 30", `put 0 "a  b"`, "most 1 -5", "pub a.> 7", "sub 1 back if num !", "recv 1 by 3", "timer 5 1"} {
		for i := range len(s) + 1 {
			for b := range 256 {
				piece := string([]byte{byte(b)})
				checkReadCall(t, s[:i]+piece+s[i:])
				if i < len(s) {
					checkReadCall(t, s[:i]+piece+s[i+1:])
				}
				checkReadProg(t, "tell 1\n"+s[:i]+piece+s[i:]+"\ntell 2\n")
			}
		}
	}
}

// TestTwoRowsInOne has one row behind another, with something between that is no byte 10.
func TestTwoRowsInOne(t *testing.T) {
	list := handRows()
	for i := 0; i < len(list); i += 3 {
		for j := 0; j < len(list); j += 4 {
			for _, between := range []string{"", " ", "  ", "\r", "\x00", "\u2028", ";", " by ", "\n"} {
				checkReadCall(t, list[i].s+between+list[j].s)
				checkReadProg(t, list[i].s+between+list[j].s+"\n")
			}
		}
	}
}

// TestEachWordsPlace has the words of right rows in each other order, one left out, one twice.
func TestEachWordsPlace(t *testing.T) {
	for _, x := range handRows() {
		words := strings.Split(x.s, " ")
		for i := range words {
			checkReadCall(t, strings.Join(slices.Delete(slices.Clone(words), i, i+1), " "))
			for j := range words {
				checkReadCall(t, strings.Join(slices.Insert(slices.Clone(words), j, words[i]), " "))
				turned := slices.Clone(words)
				turned[i], turned[j] = words[j], words[i]
				checkReadCall(t, strings.Join(turned, " "))
			}
		}
	}
}

// TestEveryFewLines holds ReadProg against the second way, at all texts of a few pieces that matter.
func TestEveryFewLines(t *testing.T) {
	lines := map[int]int{}
	see := func(s string) {
		checkReadProg(t, s)
		_, n := impl.ReadProg(s)
		lines[n]++
	}
	eachText([]string{"tell 0\n", "sub 1 if num !\n", "fly\n", "\n", "tell 0", " ", "\xff"}, 5, see)
	eachText([]string{"tell", " ", "0", "\n", "\r"}, 7, see)
	for n := -1; n <= 4; n++ {
		if lines[n] == 0 {
			t.Error("no text of which that line is told", n)
		}
	}
}

// TestProgramsOfEachLength has a line that is none at each place, and a last one that does not end.
func TestProgramsOfEachLength(t *testing.T) {
	all := slices.Repeat(handRows(), 2)
	odd := []string{"\n", " \n", "fly\n", "tell 0 \n", "tell 0\r\n", "\x00\n", "\t\n", "\x7f\n", "\xff\n", "\xe2\n", "é\n", `put 0 "` + strings.Repeat("m", 160) + "\"\n", strings.Repeat(" ", 160) + "\n", strings.Repeat("x", 161) + "\n", "put 0 \"a\n\"\n"}
	for n := range 34 {
		rows := all[n : n+n]
		s, calls := progOf(rows...)
		checkReadProg(t, s)
		checkProgText(t, calls)
		for _, tail := range []string{"tell 0", " ", "\x00", "\xff", "x", "\n\n"} {
			checkReadProg(t, s+tail)
		}
		for at := range n + 1 {
			ahead, _ := progOf(rows[:at]...)
			behind, _ := progOf(rows[at:]...)
			for i, line := range odd {
				checkReadProg(t, ahead+line+behind)
				checkReadProg(t, ahead+line+odd[(i+1)%len(odd)]+behind)
				checkReadProg(t, ahead+line+behind+odd[(i+at)%len(odd)])
			}
		}
	}
}

// TestProgTextAtEachPlace has a call without a text at each place of programs of each length.
func TestProgTextAtEachPlace(t *testing.T) {
	_, all := progOf(slices.Repeat(handRows(), 2)...)
	none := append(unwritten(), notCalls()...)
	for n := range 34 {
		for at := range n {
			calls := slices.Clone(all[n : n+n])
			calls[at] = none[(n*31+at)%len(none)]
			checkProgText(t, calls)
			calls[n-1] = none[(n*17+at)%len(none)]
			checkProgText(t, calls)
		}
	}
}

// TestProgramsThatShareTheirLists has one Filter in many calls: the answers are the same, and nothing is written into it.
func TestProgramsThatShareTheirLists(t *testing.T) {
	room := roomyWith(nots(12), fillTerm)
	var shared, apart []impl.Call
	for n := range 13 {
		shared = append(shared, subscribes(n, n%2, room[:n]))
		apart = append(apart, subscribes(n, n%2, nots(n)))
	}
	s, ok := impl.ProgText(shared)
	want, right := impl.ProgText(apart)
	if s != want || !ok || !right {
		t.Error("texts", s, ok, want, right)
	}
	for i, c := range shared {
		if s, ok := impl.CallText(c); !ok || s != strings.Split(want, "\n")[i] {
			t.Error("text", i, s, ok)
		}
	}
	if !roomKeptWith(room, nots(12), fillTerm) {
		t.Error("written into the Filter", room)
	}
}

// TestProgramsKeepNothing asks for other things between two calls of one kind.
func TestProgramsKeepNothing(t *testing.T) {
	rows := handRows()
	ask := func(i int) string {
		x, y := rows[i], rows[(i+7)%len(rows)]
		s, ok := impl.CallText(x.c)
		c, read := impl.ReadCall(x.s)
		told, right := impl.ProgText([]impl.Call{x.c, y.c})
		list, n := impl.ReadProg(x.s + "\n" + y.s + "\n")
		return fmt.Sprint(s, ok, c, read, told, right, list, n)
	}
	var before []string
	for i := range rows {
		before = append(before, ask(i))
	}
	for _, s := range otherRows() {
		impl.ReadCall(s)
		impl.ReadProg(s)
	}
	for i := len(rows) - 1; i >= 0; i-- {
		if again := ask(i); again != before[i] {
			t.Errorf("%q: %s, and then %s", rows[i].s, before[i], again)
		}
	}
}
