package tests

import (
	"math/rand"
	"slices"
	"strings"
	"testing"

	"loop.example/g00098/impl"
)

// someText is what a message can be, often with blanks one behind the other.
func someText(r *rand.Rand) string {
	s := make([]byte, r.Intn(impl.MaxMsg+1))
	for i := range s {
		s[i] = byte(32 + r.Intn(95))
		if s[i] == '"' || r.Intn(3) == 0 {
			s[i] = ' '
		}
	}
	return string(s)
}

func someMsg(r *rand.Rand) impl.Msg {
	if r.Intn(2) == 0 {
		return text(someText(r))
	}
	return num(someWritten(r) - someWritten(r))
}

// someWritten is a number that can be written, of any number of digits.
func someWritten(r *rand.Rand) int {
	most := 1
	for range r.Intn(10) {
		most *= 10
	}
	return r.Intn(most)
}

func somePattern(r *rand.Rand) string {
	for {
		var parts []string
		for range 1 + r.Intn(5) {
			parts = append(parts, []string{"a", "*", "x9", "back", "0", "by"}[r.Intn(6)])
		}
		if r.Intn(3) == 0 {
			parts[len(parts)-1] = ">"
		}
		if s := strings.Join(parts, "."); len(s) <= impl.MaxName {
			return s
		}
	}
}

// someCall is one that has a text.
func someCall(r *rand.Rand) impl.Call {
	c := impl.Call{Op: 1 + r.Intn(19), Tok: -1}
	for _, letter := range namesOfOps[c.Op] {
		switch {
		case letter == 'A':
			c.A = someWritten(r)
		case letter == 'B' && c.Op == impl.OpUpdate:
			c.B = 1 + r.Intn(4)
		case letter == 'B' && c.Op == impl.OpSub:
			c.B = r.Intn(2)
		case letter == 'B':
			c.B = someWritten(r)
		case letter == 'T' && r.Intn(2) == 0:
			c.Tok = someWritten(r)
		case letter == 'N':
			c.Name = somePattern(r)
		case letter == 'M':
			c.Msg = someMsg(r)
		case letter == 'F':
			c.Filter = someFilter(r, max(0, r.Intn(17)-4))
		}
	}
	return c
}

// TestManyCallsAreReadAsThemselves asks no second way: the text of a call is read as it, and no other call has that text.
func TestManyCallsAreReadAsThemselves(t *testing.T) {
	r := rand.New(rand.NewSource(14))
	texts := map[string]impl.Call{}
	ops := map[int]int{}
	for range 60000 {
		c := someCall(r)
		s, ok := impl.CallText(c)
		if !ok || len(s) > impl.MaxRow || strings.Contains(s, "\n") {
			t.Fatalf("the text of %+v: %q, %v", c, s, ok)
		}
		if back, ok := impl.ReadCall(s); !ok || !sameCall(back, c) {
			t.Fatalf("%q is read as %+v, %v; it is the text of %+v", s, back, ok, c)
		}
		if other, there := texts[s]; there && !sameCall(other, c) {
			t.Fatalf("%+v and %+v have one text: %q", other, c, s)
		}
		texts[s] = c
		ops[c.Op]++
	}
	if len(texts) < 40000 || len(ops) != 19 {
		t.Error("how many unlike ones", len(texts), ops)
	}
}

// TestManyCallsByTheForms holds such calls, and texts that are nearly theirs, against the second way.
func TestManyCallsByTheForms(t *testing.T) {
	r := rand.New(rand.NewSource(140))
	pieces := append(oddPieces(), " by 0", " back", " if all", "tell", " 0", " !", "\"\"", " \"")
	read := 0
	for range 20000 {
		c := someCall(r)
		checkCallText(t, c)
		s, _ := impl.CallText(c)
		for range 1 + r.Intn(2) {
			from := r.Intn(len(s) + 1)
			to := min(len(s), from+r.Intn(3))
			s = s[:from] + pieces[r.Intn(len(pieces))] + s[to:]
		}
		checkReadCall(t, s)
		if _, ok := impl.ReadCall(s); ok {
			read++
		}
	}
	if read < 300 || read > 10000 {
		t.Error("how many of those that were changed are read", read)
	}
}

func someProgram(r *rand.Rand, n int) []impl.Call {
	var list []impl.Call
	for range n {
		list = append(list, someCall(r))
	}
	return list
}

// checkOneBehindTheOther has two programs' texts read together: both, or the line behind MaxProg.
func checkOneBehindTheOther(t *testing.T, a []impl.Call, b []impl.Call) {
	t.Helper()
	first, okFirst := impl.ProgText(a)
	second, okSecond := impl.ProgText(b)
	if !okFirst || !okSecond {
		t.Fatalf("no text: %+v, %+v", a, b)
	}
	list, n := impl.ReadProg(first + second)
	both, ok := impl.ProgText(slices.Concat(a, b))
	if len(a)+len(b) > impl.MaxProg {
		if len(list) != 0 || n != impl.MaxProg || ok || both != "" {
			t.Fatalf("%d and %d calls: %+v, %d, %q, %v", len(a), len(b), list, n, both, ok)
		}
		return
	}
	if n != -1 || !samePrograms(list, slices.Concat(a, b)) || !ok || both != first+second {
		t.Fatalf("%q and %q: %+v, %d, %q, %v", first, second, list, n, both, ok)
	}
}

func TestOneProgramBehindTheOther(t *testing.T) {
	r := rand.New(rand.NewSource(41))
	for a := range impl.MaxProg + 1 {
		for b := range impl.MaxProg + 1 {
			checkOneBehindTheOther(t, someProgram(r, a), someProgram(r, b))
		}
	}
	_, rows := progOf(handRows()...)
	for i := range rows {
		checkOneBehindTheOther(t, rows[i:i+1], rows[(i*7)%len(rows):][:1])
		checkOneBehindTheOther(t, nil, rows[i:i+1])
		checkOneBehindTheOther(t, rows[i:i+1], nil)
	}
}

// TestAProgramCutAnywhere has each beginning and each end of a program's text: it is read where it is cut between two lines.
func TestAProgramCutAnywhere(t *testing.T) {
	r := rand.New(rand.NewSource(1414))
	for _, n := range []int{0, 1, 2, 5, 29, 30} {
		calls := someProgram(r, n)
		s, _ := impl.ProgText(calls)
		for i := range len(s) + 1 {
			whole := strings.Count(s[:i], "\n")
			between := i == 0 || s[i-1] == '\n'
			list, line := impl.ReadProg(s[:i])
			if between && (line != -1 || !samePrograms(list, calls[:whole])) || !between && (line != whole || len(list) != 0) {
				t.Fatalf("the first %d bytes of %q: %+v, %d", i, s, list, line)
			}
			list, line = impl.ReadProg(s[i:])
			if between && (line != -1 || !samePrograms(list, calls[whole:])) {
				t.Fatalf("%q without the first %d bytes: %+v, %d", s, i, list, line)
			}
			checkReadProg(t, s[i:])
		}
	}
}

// TestManyProgramsAreReadAsThemselves has programs of each length, and texts that are nearly theirs.
func TestManyProgramsAreReadAsThemselves(t *testing.T) {
	r := rand.New(rand.NewSource(4141))
	pieces := append(oddPieces(), "\n\n", "tell 0\n", "tell 0", " by 0\n")
	lines := map[int]int{}
	for range 30 {
		for n := range impl.MaxProg + 3 {
			calls := someProgram(r, n)
			checkProgText(t, calls)
			s := ""
			for _, c := range calls {
				row, _ := impl.CallText(c)
				s += row + "\n"
			}
			if list, line := impl.ReadProg(s); n <= impl.MaxProg && (line != -1 || !samePrograms(list, calls)) || n > impl.MaxProg && (line != impl.MaxProg || len(list) != 0) {
				t.Fatalf("%q is read as %+v, %d", s, list, line)
			}
			from := r.Intn(len(s) + 1)
			s = s[:from] + pieces[r.Intn(len(pieces))] + s[from:]
			checkReadProg(t, s)
			_, line := impl.ReadProg(s)
			lines[line]++
		}
	}
	if len(lines) < 25 {
		t.Error("which lines were told", lines)
	}
}

// TestEachFilterInACall is the promise for filters: each right one is read behind `if` as it is by itself, and what is none is not.
func TestEachFilterInACall(t *testing.T) {
	filters := rightFilters(append(leaves(), takers()...), 4)
	for i, f := range filters {
		s, ok := impl.FilterText(f)
		if !ok {
			t.Fatal("no text", f)
		}
		c := subscribes(i, i%2, f)
		want := strings.Join([]string{"sub", impl.MsgText(num(i)), "back", "if", s}, " ")
		if i%2 == 0 {
			want = strings.Replace(want, " back", "", 1)
		}
		if len(f) == 0 {
			want = strings.TrimSuffix(want, " if ")
		}
		if told, ok := impl.CallText(c); !ok || told != want {
			t.Fatalf("the text of %+v: %q, %v; want %q", c, told, ok, want)
		}
		if back, ok := impl.ReadCall(want); !ok || !sameCall(back, c) {
			t.Fatalf("%q is read as %+v, %v", want, back, ok)
		}
	}
	eachText([]string{"all", "num", " ", "!", "&", "<1", "~z"}, 5, func(s string) {
		f, right := impl.ReadFilter(s)
		c, ok := impl.ReadCall("sub 0 if " + s)
		if ok != (right && len(f) > 0) || ok && !sameCall(c, subscribes(0, 0, f)) {
			t.Fatalf("%q: %+v, %v; as a filter %+v, %v", s, c, ok, f, right)
		}
	})
}
