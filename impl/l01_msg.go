package impl

import "strconv"

const Done = 0
const Bad = 1
const Full = 2
const None = 3
const Waits = 4
const There = 5
const Over = 6

// The kinds start at 1, so that the zero value of a Msg is no message.
const (
	MNum = iota + 1
	MText
)

const MaxMsg = 40
const MaxNum = 999999999

// Msg is what is sent.
type Msg struct {
	Kind int
	Num  int
	Text string
}

// msgBody is what a message holds, a numBody or a textBody, so that no function but bodyOf has to ask for a Kind.
type msgBody interface {
	right() bool
	text() string
	msg() Msg
}

type numBody int

type textBody string

func (n numBody) right() bool { return -MaxNum <= n && n <= MaxNum }

func (n numBody) text() string { return strconv.Itoa(int(n)) }

func (n numBody) msg() Msg { return Msg{Kind: MNum, Num: int(n)} }

func (t textBody) right() bool {
	if len(t) > MaxMsg {
		return false
	}
	// By bytes, not by runes: the limits of the document are those of bytes.
	for i := 0; i < len(t); i++ {
		if t[i] < 32 || t[i] > 126 || t[i] == '"' {
			return false
		}
	}
	return true
}

func (t textBody) text() string { return `"` + string(t) + `"` }

func (t textBody) msg() Msg { return Msg{Kind: MText, Text: string(t)} }

// bodyOf tells false when m is not right.
func bodyOf(m Msg) (msgBody, bool) {
	var b msgBody
	switch m.Kind {
	case MNum:
		b = numBody(m.Num)
	case MText:
		b = textBody(m.Text)
	default:
		return nil, false
	}
	// A body drops the field of the other kind: a message in which that was filled does not come back.
	if b.msg() != m || !b.right() {
		return nil, false
	}
	return b, true
}

func readBody(s string) (msgBody, bool) {
	if n, ok := readNumber(s); ok {
		return numBody(n), true
	}
	if len(s) < 2 || s[0] != '"' || s[len(s)-1] != '"' {
		return nil, false
	}
	t := textBody(s[1 : len(s)-1])
	return t, t.right()
}

// readNumber reads a number's text.
func readNumber(s string) (int, bool) {
	n, err := strconv.Atoi(s)
	// Atoi also takes `+1`, `-0` and `007`, which no number is written as.
	if err != nil || strconv.Itoa(n) != s || !numBody(n).right() {
		return 0, false
	}
	return n, true
}

func bodyLess(a msgBody, b msgBody) bool {
	switch x := a.(type) {
	case numBody:
		y, number := b.(numBody)
		return !number || x < y
	case textBody:
		y, text := b.(textBody)
		return text && x < y
	}
	return false
}

func MsgOk(m Msg) bool {
	_, ok := bodyOf(m)
	return ok
}

func MsgText(m Msg) string {
	b, ok := bodyOf(m)
	if !ok {
		return "?"
	}
	return b.text()
}

func ReadMsg(s string) (Msg, bool) {
	b, ok := readBody(s)
	if !ok {
		return Msg{}, false
	}
	return b.msg(), true
}

func MsgLess(a Msg, b Msg) bool {
	x, okA := bodyOf(a)
	y, okB := bodyOf(b)
	return okA && okB && bodyLess(x, y)
}
