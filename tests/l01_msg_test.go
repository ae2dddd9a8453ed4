package tests

import (
	"math"
	"regexp"
	"strconv"
	"strings"
	"testing"

	"loop.example/g00098/impl"
)

func num(n int) impl.Msg { return impl.Msg{Kind: impl.MNum, Num: n} }

func text(s string) impl.Msg { return impl.Msg{Kind: impl.MText, Text: s} }

// rightMsgs has no two alike, and stands in the order that MsgLess asks for.
func rightMsgs() []impl.Msg {
	var list []impl.Msg
	for _, n := range []int{-impl.MaxNum, -impl.MaxNum + 1, -100000000, -99999999, -10, -9, -2, -1, 0, 1, 2, 9, 10, 11, 70, 99999999, 100000000, impl.MaxNum - 1, impl.MaxNum} {
		list = append(list, num(n))
	}
	full := strings.Repeat("m", impl.MaxMsg)
	for _, s := range []string{"", " ", "  ", " a", "!", "#", "'", "-0", "-1", "0", "007", "1", "10", "2", "?", "A", "Z", "\\", "\\n", "`", "a", "a ", "a b", "aa", "ab", "b", full[1:], full, "n", "~", "~~"} {
		list = append(list, text(s))
	}
	return list
}

// wrongMsgs are not MsgOk, each for a reason of its own.
func wrongMsgs() []impl.Msg {
	list := []impl.Msg{
		{},
		{Kind: 0, Num: 5},
		{Kind: 0, Text: "a"},
		{Kind: 3},
		{Kind: 3, Num: 5},
		{Kind: 3, Text: "a"},
		{Kind: -1},
		{Kind: math.MinInt},
		{Kind: math.MaxInt, Num: 1},
		{Kind: impl.MNum, Text: "a"},
		{Kind: impl.MNum, Num: 7, Text: "7"},
		{Kind: impl.MNum, Text: "\""},
		{Kind: impl.MText, Num: 1},
		{Kind: impl.MText, Num: -1},
		{Kind: impl.MText, Num: 7, Text: "7"},
		num(impl.MaxNum + 1),
		num(-impl.MaxNum - 1),
		num(math.MaxInt),
		num(math.MinInt),
	}
	for _, s := range []string{"\"", "\"\"", "a\"", "\"a", "a\"b", "\"a\"", "\x00", "\n", "a\n", "\t", "\x1f", "\x7f", "\x80", "\xff", "é", "a\u2028b", strings.Repeat("m", impl.MaxMsg+1), strings.Repeat(" ", impl.MaxMsg+1), strings.Repeat("m", 100000)} {
		list = append(list, text(s))
	}
	return list
}

func TestCodesAndLimits(t *testing.T) {
	codes := []int{impl.Done, impl.Bad, impl.Full, impl.None, impl.Waits, impl.There, impl.Over}
	for i, c := range codes {
		if c != i {
			t.Error("code", i, c)
		}
	}
	if impl.MNum != 1 || impl.MText != 2 || impl.MaxMsg != 40 || impl.MaxNum != 999999999 {
		t.Error("constants", impl.MNum, impl.MText, impl.MaxMsg, impl.MaxNum)
	}
}

func TestRightMsgIsReadAsItself(t *testing.T) {
	for _, m := range rightMsgs() {
		if !impl.MsgOk(m) {
			t.Error("not right", m)
		}
		want := strconv.Itoa(m.Num)
		if m.Kind == impl.MText {
			want = "\"" + m.Text + "\""
		}
		s := impl.MsgText(m)
		if s != want {
			t.Error("text", m, s, want)
		}
		if r, ok := impl.ReadMsg(s); !ok || r != m {
			t.Error("read", m, s, r, ok)
		}
	}
}

func TestManyNumbersAreReadAsThemselves(t *testing.T) {
	for n := -impl.MaxNum; n <= impl.MaxNum; n += 99991 {
		s := impl.MsgText(num(n))
		if r, ok := impl.ReadMsg(s); s != strconv.Itoa(n) || !ok || r != num(n) {
			t.Fatal("number", n, s, r, ok)
		}
	}
}

func TestWrongMsgHasNoText(t *testing.T) {
	for _, m := range wrongMsgs() {
		if impl.MsgOk(m) {
			t.Errorf("right: %#v", m)
		}
		if s := impl.MsgText(m); s != "?" {
			t.Errorf("text: %#v %q", m, s)
		}
	}
}

func TestEachByteAtEachPlace(t *testing.T) {
	for b := 0; b < 256; b++ {
		c := string([]byte{byte(b)})
		want := b >= 32 && b <= 126 && b != '"'
		for _, s := range []string{c, c + "a", "a" + c, "a" + c + "a", strings.Repeat("a", impl.MaxMsg-1) + c, c + strings.Repeat("a", impl.MaxMsg-1)} {
			if impl.MsgOk(text(s)) != want {
				t.Errorf("byte %d of %q: want %v", b, s, want)
			}
			m, ok := impl.ReadMsg("\"" + s + "\"")
			if ok != want {
				t.Errorf("byte %d read of %q: want %v", b, s, want)
			}
			if want && m != text(s) || !want && m != (impl.Msg{}) {
				t.Errorf("byte %d read of %q: %#v", b, s, m)
			}
		}
	}
}

func TestTextsOfEachLength(t *testing.T) {
	for n := 0; n <= impl.MaxMsg+5; n++ {
		s := strings.Repeat("x", n)
		want := n <= impl.MaxMsg
		if impl.MsgOk(text(s)) != want {
			t.Error("length", n)
		}
		if m, ok := impl.ReadMsg("\"" + s + "\""); ok != want || want && m != text(s) || !want && m != (impl.Msg{}) {
			t.Error("read length", n, m, ok)
		}
	}
}

func TestNumbersAtTheLimits(t *testing.T) {
	for _, c := range []struct {
		s    string
		n    int
		want bool
	}{
		{"999999999", impl.MaxNum, true},
		{"-999999999", -impl.MaxNum, true},
		{"1000000000", 0, false},
		{"-1000000000", 0, false},
		{"0", 0, true},
		{"-1", -1, true},
		{"-0", 0, false},
		{"00", 0, false},
		{"007", 0, false},
		{"-07", 0, false},
		{"0999999999", 0, false},
		{"0000000001", 0, false},
		{"1234567890", 0, false},
		{"9223372036854775807", 0, false},
		{"-9223372036854775808", 0, false},
		{"18446744073709551617", 0, false},
		{strings.Repeat("9", 1000), 0, false},
		{strings.Repeat("0", 1000), 0, false},
	} {
		m, ok := impl.ReadMsg(c.s)
		want := impl.Msg{}
		if c.want {
			want = num(c.n)
		}
		if ok != c.want || m != want {
			t.Error("read", c.s, m, ok)
		}
	}
}

func TestOtherTextsAreNotRead(t *testing.T) {
	full := strings.Repeat("m", impl.MaxMsg)
	for _, s := range []string{
		"", " ", "?", "-", "--1", "+1", "+0", "1 ", " 1", "1-", "1a", "a", "0x1", "1_0", "1e3", "1.0", "\n", "1\n", "1\x00",
		"\"", "\"\"\"", "\"\"\"\"", "\"a", "a\"", "\"a\"b\"", "\"a\"\"b\"", "\"\"a\"", "\"a\"\"", "\"a\" ", " \"a\"", "\"a\"b", "x\"a\"",
		"'a'", "`a`", "\"a\\\"b\"", "\"\n\"", "\"a\x1f\"", "\"a\x7f\"", "\"é\"", "\"\xff\"", "\"" + full + "m\"", "\"" + full, full + "\"",
		"\"" + strings.Repeat("a", 100000) + "\"", "\u0661", "\uff11",
	} {
		if m, ok := impl.ReadMsg(s); ok || m != (impl.Msg{}) {
			t.Errorf("read %q: %#v %v", s, m, ok)
		}
	}
}

// TestEveryShortText holds ReadMsg against a rule told in other words, at all short texts of bytes that matter.
func TestEveryShortText(t *testing.T) {
	rule := regexp.MustCompile(`^(0|-?[1-9][0-9]{0,8}|"[ !#-~]{0,40}")$`)
	const bytes = "\"-+019a ?\x1f\x7f\n"
	read := 0
	var each func(s string, left int)
	each = func(s string, left int) {
		m, ok := impl.ReadMsg(s)
		if ok != rule.MatchString(s) {
			t.Errorf("read %q: %v", s, ok)
		}
		if ok {
			read++
			if !impl.MsgOk(m) || impl.MsgText(m) != s {
				t.Errorf("read %q as %#v", s, m)
			}
		} else if m != (impl.Msg{}) {
			t.Errorf("beside false %q: %#v", s, m)
		}
		if left == 0 {
			return
		}
		for i := range len(bytes) {
			each(s+bytes[i:i+1], left-1)
		}
	}
	each("", 5)
	if read == 0 {
		t.Error("none was read")
	}
}

func TestOfTwoOneIsAheadOrTheyAreTheSame(t *testing.T) {
	list := rightMsgs()
	for i, a := range list {
		for j, b := range list {
			if impl.MsgLess(a, b) != (i < j) {
				t.Errorf("%#v ahead of %#v: want %v", a, b, i < j)
			}
		}
	}
}

func TestOrderOfTextsIsThatOfBytes(t *testing.T) {
	for a := 32; a <= 126; a++ {
		for b := 32; b <= 126; b++ {
			if a == '"' || b == '"' {
				continue
			}
			x, y := string(rune(a)), string(rune(b))
			if impl.MsgLess(text(x), text(y)) != (a < b) || impl.MsgLess(text("k"+x+"~"), text("k"+y)) != (a < b) {
				t.Error("bytes", a, b)
			}
		}
	}
}

func TestWrongMsgIsNeverAhead(t *testing.T) {
	for _, w := range wrongMsgs() {
		for _, r := range rightMsgs() {
			if impl.MsgLess(w, r) || impl.MsgLess(r, w) {
				t.Errorf("%#v and %#v", w, r)
			}
		}
		for _, v := range wrongMsgs() {
			if impl.MsgLess(w, v) {
				t.Errorf("%#v and %#v", w, v)
			}
		}
	}
}

// TestMsgAnswersAnywhere goes through all fields that are odd together: each call answers, the same each time, and leaves what it was given.
func TestMsgAnswersAnywhere(t *testing.T) {
	whole := []int{math.MinInt, math.MinInt + 1, -impl.MaxNum - 1, -impl.MaxNum, -1, 0, 1, 2, 3, impl.MaxNum, impl.MaxNum + 1, math.MaxInt - 1, math.MaxInt}
	words := []string{"", "a", "\"", "?", "0", "\xff\xfe", "\x00", "é", strings.Repeat("z", impl.MaxMsg), strings.Repeat("z", impl.MaxMsg+1), strings.Repeat("\"", 5000)}
	var list []impl.Msg
	for _, k := range whole {
		for _, n := range whole {
			for _, s := range words {
				list = append(list, impl.Msg{Kind: k, Num: n, Text: s})
			}
		}
	}
	for i := range list {
		checkOddMsg(t, list[i])
	}
	for i := 0; i < len(list); i += 7 {
		for j := 0; j < len(list); j += 11 {
			a, b := list[i], list[j]
			less := impl.MsgLess(a, b)
			if a != list[i] || b != list[j] || impl.MsgLess(a, b) != less {
				t.Errorf("less changed %#v %#v", a, b)
			}
			if less && (!impl.MsgOk(a) || !impl.MsgOk(b) || impl.MsgLess(b, a)) {
				t.Errorf("less of %#v %#v", a, b)
			}
		}
	}
}

func checkOddMsg(t *testing.T, m impl.Msg) {
	t.Helper()
	given := m
	ok := impl.MsgOk(given)
	s := impl.MsgText(given)
	if given != m || impl.MsgOk(m) != ok || impl.MsgText(m) != s {
		t.Errorf("changed: %#v", m)
	}
	number := m.Kind == 1 && m.Text == "" && m.Num >= -999999999 && m.Num <= 999999999
	words := m.Kind == 2 && m.Num == 0 && len(m.Text) <= 40 && !strings.ContainsAny(m.Text, "\"\x00\xff\xfeé")
	if ok != (number || words) || ok == (s == "?") {
		t.Errorf("right: %#v %v %q", m, ok, s)
	}
	r, read := impl.ReadMsg(s)
	if read != ok || ok && r != m || !ok && r != (impl.Msg{}) {
		t.Errorf("read: %#v %q %#v", m, s, r)
	}
}
