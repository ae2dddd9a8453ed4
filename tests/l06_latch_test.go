package tests

import (
	"fmt"
	"math"
	"math/rand/v2"
	"slices"
	"testing"

	"loop.example/g00098/impl"
)

func cloneLatch(l impl.Latch) impl.Latch {
	l.Line, l.Grants = slices.Clone(l.Line), slices.Clone(l.Grants)
	return l
}

func sameLatch(a impl.Latch, b impl.Latch) bool {
	return a.Count == b.Count && slices.Equal(a.Line, b.Line) && slices.Equal(a.Grants, b.Grants)
}

func latchIsRight(l impl.Latch) bool {
	return l.Count >= 0 && l.Count <= most && bothAreRight(l.Line, l.Grants) && (l.Count > 0 || len(l.Line) == 0)
}

func rightLatches() []impl.Latch {
	list := []impl.Latch{{}, {Line: []int{}, Grants: []int{}}, {Count: 1, Line: []int{63}, Grants: []int{0}}, {Count: 3, Line: []int{5, 2}, Grants: []int{9, 1, 7, 0}}}
	for _, count := range []int{0, 1, 2, 5, most - 1, most} {
		for _, n := range []int{0, 1, 2, 31, 32} {
			for _, k := range []int{0, 1, 2, 31, 32} {
				line := upTo(32, k)
				slices.Reverse(line)
				if count > 0 || k == 0 {
					list = append(list, impl.Latch{Count: count, Line: line, Grants: upTo(0, n)})
				}
			}
		}
	}
	return list
}

// wrongLatches are not LatchOk, each for a reason of its own, some for several.
func wrongLatches() []impl.Latch {
	var list []impl.Latch
	for _, p := range wrongPairs() {
		for _, count := range []int{-1, 0, 1, 2, most, most + 1} {
			list = append(list, impl.Latch{Count: count, Line: p[0], Grants: p[1]})
		}
	}
	for _, l := range rightLatches() {
		for _, count := range []int{-1, -2, -most, most + 1, most + 2, 1 << 32, -1 << 32, math.MaxInt, math.MinInt} {
			list = append(list, impl.Latch{Count: count, Line: l.Line, Grants: l.Grants})
		}
		if len(l.Line) > 0 {
			list = append(list, impl.Latch{Line: l.Line, Grants: l.Grants})
		}
	}
	return list
}

// partsOf are what a latch is counted down by: its Count, what is beside it, and the edges.
func partsOf(l impl.Latch) []int {
	list := []int{math.MinInt, -most, -1, 0, 1, 2, most - 1, most, most + 1, 1 << 32, math.MaxInt, l.Count, -l.Count}
	for _, more := range []int{-2, -1, 1, 2} {
		list = append(list, l.Count+more)
	}
	slices.Sort(list)
	return slices.Compact(list)
}

func roomyLatch(l impl.Latch) impl.Latch {
	l.Line, l.Grants = roomy(l.Line), roomy(l.Grants)
	return l
}

type latchAnswer struct {
	l    impl.Latch
	told []int
	code int
}

// checkLatchAnswer holds an answer against the one that is wanted, and looks at the memory; given was made of l.
func checkLatchAnswer(t *testing.T, what string, given impl.Latch, l impl.Latch, got latchAnswer, want latchAnswer) {
	t.Helper()
	if !sameLatch(got.l, want.l) || !slices.Equal(got.told, want.told) || got.code != want.code {
		t.Errorf("%s of %+v = %+v; want %+v", what, l, got, want)
	}
	checkBothApart(t, what, [2][]int{given.Line, given.Grants}, [2][]int{l.Line, l.Grants}, got.l.Line, got.l.Grants, got.told)
}

func checkLatchOk(t *testing.T, l impl.Latch) {
	t.Helper()
	given := roomyLatch(l)
	if ok := impl.LatchOk(given); ok != latchIsRight(l) {
		t.Errorf("LatchOk(%+v) = %v", l, ok)
	}
	checkBothApart(t, "LatchOk", [2][]int{given.Line, given.Grants}, [2][]int{l.Line, l.Grants})
}

func checkCountDown(t *testing.T, l impl.Latch, n int) {
	t.Helper()
	want, told, code := cloneLatch(l), []int(nil), impl.Done
	switch {
	case !latchIsRight(l), n < 1:
		code = impl.Bad
	case n > l.Count:
		code = impl.Over
	case n < l.Count:
		want.Count = l.Count - n
	case len(l.Line)+len(l.Grants) > 32:
		code = impl.Full
	default:
		told = l.Line
		want = impl.Latch{Grants: append(want.Grants, told...)}
	}
	given := roomyLatch(l)
	d, list, c := impl.CountDown(given, n)
	checkLatchAnswer(t, fmt.Sprint("CountDown by ", n), given, l, latchAnswer{d, list, c}, latchAnswer{want, told, code})
}

func checkStandAt(t *testing.T, l impl.Latch, who int) {
	t.Helper()
	want, code := cloneLatch(l), impl.Waits
	switch {
	case !latchIsRight(l), who < 0, who > 63:
		code = impl.Bad
	case slices.Contains(l.Line, who), slices.Contains(l.Grants, who):
		code = impl.There
	case l.Count == 0:
		code = impl.Done
	case len(l.Line) == 32:
		code = impl.Full
	default:
		want.Line = append(want.Line, who)
	}
	given := roomyLatch(l)
	d, c := impl.StandAt(given, who)
	checkLatchAnswer(t, fmt.Sprint("StandAt by ", who), given, l, latchAnswer{d, nil, c}, latchAnswer{want, nil, code})
}

func checkPassLatch(t *testing.T, l impl.Latch, who int) {
	t.Helper()
	want, code := cloneLatch(l), impl.Done
	switch {
	case !latchIsRight(l):
		code = impl.Bad
	case slices.Contains(l.Line, who):
		code = impl.Waits
	case !slices.Contains(l.Grants, who):
		code = impl.None
	default:
		want.Grants = without(l.Grants, who)
	}
	given := roomyLatch(l)
	d, c := impl.PassLatch(given, who)
	checkLatchAnswer(t, fmt.Sprint("PassLatch by ", who), given, l, latchAnswer{d, nil, c}, latchAnswer{want, nil, code})
}

func checkQuitLatch(t *testing.T, l impl.Latch, who int) {
	t.Helper()
	want, code := cloneLatch(l), impl.Done
	switch {
	case !latchIsRight(l):
		code = impl.Bad
	case !slices.Contains(l.Line, who) && !slices.Contains(l.Grants, who):
		code = impl.None
	default:
		want.Line, want.Grants = without(l.Line, who), without(l.Grants, who)
	}
	given := roomyLatch(l)
	d, c := impl.QuitLatch(given, who)
	checkLatchAnswer(t, fmt.Sprint("QuitLatch by ", who), given, l, latchAnswer{d, nil, c}, latchAnswer{want, nil, code})
}

// checkLatch asks every function of latches at l.
func checkLatch(t *testing.T, l impl.Latch, whos []int, parts []int) {
	t.Helper()
	checkLatchOk(t, l)
	for _, n := range parts {
		checkCountDown(t, l, n)
	}
	for _, who := range whos {
		checkStandAt(t, l, who)
		checkPassLatch(t, l, who)
		checkQuitLatch(t, l, who)
	}
}

func TestLatchLimits(t *testing.T) {
	for _, l := range rightLatches() {
		if !impl.LatchOk(l) {
			t.Error("not right", l)
		}
	}
	for _, l := range wrongLatches() {
		if impl.LatchOk(l) {
			t.Error("right", l)
		}
	}
}

func TestLatchesAtTheirEdges(t *testing.T) {
	for _, l := range append(rightLatches(), wrongLatches()...) {
		checkLatch(t, l, whosAround(l.Line, l.Grants), partsOf(l))
	}
}

// TestEveryFewAtALatch goes through all of up to two in Line and up to two in Grants, right ones and wrong ones.
func TestEveryFewAtALatch(t *testing.T) {
	eachList([]int{-1, 0, 1, 63, 64}, 2, func(line []int) {
		eachList([]int{-1, 0, 1, 63, 64}, 2, func(grants []int) {
			for _, count := range []int{-1, 0, 1, 2, most, most + 1} {
				checkLatch(t, impl.Latch{Count: count, Line: line, Grants: grants}, []int{-1, 0, 1, 63, 64}, []int{-1, 0, 1, 2, 3, most})
			}
		})
	})
}

// TestEveryRightFewAtALatch goes through more of them, all right: each order in Line and in Grants.
func TestEveryRightFewAtALatch(t *testing.T) {
	eachList(upTo(5, 4), 4, func(line []int) {
		if !lineIsRight(line) {
			return
		}
		eachList(upTo(5, 4), 4-len(line), func(grants []int) {
			for count := range 3 {
				if l := (impl.Latch{Count: count, Line: line, Grants: grants}); latchIsRight(l) {
					checkLatch(t, l, upTo(4, 6), upTo(0, 4))
				}
			}
		})
	})
}

// TestTheFirstReasonAtALatch has several reasons to refuse, and the answer written out.
func TestTheFirstReasonAtALatch(t *testing.T) {
	full, told := upTo(0, 32), upTo(32, 32)
	for i, x := range []struct {
		l       impl.Latch
		n, code int
	}{
		{impl.Latch{Count: 3}, 0, impl.Bad}, {impl.Latch{Count: 3}, -1, impl.Bad}, {impl.Latch{Count: 3}, 1, impl.Done}, {impl.Latch{Count: 3}, 3, impl.Done}, {impl.Latch{Count: 3}, 4, impl.Over},
		{impl.Latch{}, 0, impl.Bad}, {impl.Latch{}, 1, impl.Over}, {impl.Latch{Grants: told}, 1, impl.Over}, {impl.Latch{Line: []int{1}}, 1, impl.Bad},
		{impl.Latch{Count: 3, Line: full, Grants: told}, 4, impl.Over}, {impl.Latch{Count: 3, Line: full, Grants: told}, 3, impl.Full}, {impl.Latch{Count: 3, Line: full, Grants: told}, 2, impl.Done}, {impl.Latch{Count: 3, Line: full, Grants: told}, 0, impl.Bad},
		{impl.Latch{Count: 1, Line: full}, 1, impl.Done}, {impl.Latch{Count: 1, Grants: told}, 1, impl.Done}, {impl.Latch{Count: 1, Line: full[:1], Grants: told}, 1, impl.Full}, {impl.Latch{Count: 1, Line: full[:1], Grants: told[1:]}, 1, impl.Done},
		{impl.Latch{Count: most}, most, impl.Done}, {impl.Latch{Count: most}, most + 1, impl.Over}, {impl.Latch{Count: most + 1}, 1, impl.Bad}, {impl.Latch{Count: -1}, 1, impl.Bad}, {impl.Latch{Count: most}, math.MaxInt, impl.Over}, {impl.Latch{Count: most}, math.MinInt, impl.Bad},
	} {
		if d, list, code := impl.CountDown(x.l, x.n); code != x.code || code != impl.Done && (len(list) != 0 || !sameLatch(d, x.l)) {
			t.Error("count down", i, x.n, d, list, code)
		}
	}
	for i, x := range []struct {
		l         impl.Latch
		who, code int
	}{
		{impl.Latch{}, -1, impl.Bad}, {impl.Latch{}, 0, impl.Done}, {impl.Latch{}, 63, impl.Done}, {impl.Latch{}, 64, impl.Bad}, {impl.Latch{Grants: told}, 0, impl.Done}, {impl.Latch{Grants: told}, 32, impl.There},
		{impl.Latch{Count: 1}, 0, impl.Waits}, {impl.Latch{Count: 1}, 64, impl.Bad}, {impl.Latch{Count: 1, Line: full}, 64, impl.Bad}, {impl.Latch{Count: 1, Line: full}, 31, impl.There}, {impl.Latch{Count: 1, Line: full}, 32, impl.Full},
		{impl.Latch{Count: 1, Line: full, Grants: told}, 32, impl.There}, {impl.Latch{Count: 1, Line: full[:31], Grants: told}, 31, impl.Waits}, {impl.Latch{Line: full}, 31, impl.Bad}, {impl.Latch{Line: full}, 40, impl.Bad},
	} {
		if d, code := impl.StandAt(x.l, x.who); code != x.code || code != impl.Waits && !sameLatch(d, x.l) {
			t.Error("stand", i, x.who, d, code)
		}
	}
}

// TestTheEndWhereItIsFull has a Line and Grants that are MaxLine together, and one more, in each way.
func TestTheEndWhereItIsFull(t *testing.T) {
	for k := range 33 {
		l := impl.Latch{Count: 5, Line: upTo(0, k), Grants: upTo(32, 32-k)}
		if d, list, code := impl.CountDown(l, 5); code != impl.Done || !slices.Equal(list, upTo(0, k)) || !sameLatch(d, impl.Latch{Grants: append(upTo(32, 32-k), upTo(0, k)...)}) {
			t.Error("just as many as there can be", k, d, list, code)
		}
		if k == 0 {
			continue
		}
		l.Grants = upTo(32, 33-k)
		if d, list, code := impl.CountDown(l, 5); code != impl.Full || len(list) != 0 || !sameLatch(d, l) {
			t.Error("one more", k, d, list, code)
		}
		if d, list, code := impl.CountDown(l, 4); code != impl.Done || len(list) != 0 || !sameLatch(d, impl.Latch{Count: 1, Line: l.Line, Grants: l.Grants}) {
			t.Error("not at the end", k, d, list, code)
		}
	}
}

// TestLatchByHand has its answers written out, so that it leans on no second way to work them out.
func TestLatchByHand(t *testing.T) {
	l := impl.Latch{Count: 4, Line: []int{8, 2, 6}, Grants: []int{5, 1}}
	for _, x := range []struct {
		who          int
		passed, quit impl.Latch
		pass, leave  int
	}{
		{8, l, impl.Latch{Count: 4, Line: []int{2, 6}, Grants: []int{5, 1}}, impl.Waits, impl.Done},
		{2, l, impl.Latch{Count: 4, Line: []int{8, 6}, Grants: []int{5, 1}}, impl.Waits, impl.Done},
		{6, l, impl.Latch{Count: 4, Line: []int{8, 2}, Grants: []int{5, 1}}, impl.Waits, impl.Done},
		{5, impl.Latch{Count: 4, Line: []int{8, 2, 6}, Grants: []int{1}}, impl.Latch{Count: 4, Line: []int{8, 2, 6}, Grants: []int{1}}, impl.Done, impl.Done},
		{1, impl.Latch{Count: 4, Line: []int{8, 2, 6}, Grants: []int{5}}, impl.Latch{Count: 4, Line: []int{8, 2, 6}, Grants: []int{5}}, impl.Done, impl.Done},
		{0, l, l, impl.None, impl.None}, {-1, l, l, impl.None, impl.None}, {63, l, l, impl.None, impl.None}, {64, l, l, impl.None, impl.None},
	} {
		if d, code := impl.PassLatch(l, x.who); code != x.pass || !sameLatch(d, x.passed) {
			t.Error("pass", x.who, d, code)
		}
		if d, code := impl.QuitLatch(l, x.who); code != x.leave || !sameLatch(d, x.quit) {
			t.Error("quit", x.who, d, code)
		}
	}
	if d, code := impl.StandAt(l, 0); code != impl.Waits || !sameLatch(d, impl.Latch{Count: 4, Line: []int{8, 2, 6, 0}, Grants: []int{5, 1}}) {
		t.Error("stand", d, code)
	}
	if d, list, code := impl.CountDown(l, 3); code != impl.Done || len(list) != 0 || !sameLatch(d, impl.Latch{Count: 1, Line: []int{8, 2, 6}, Grants: []int{5, 1}}) {
		t.Error("nearly", d, list, code)
	}
	if d, list, code := impl.CountDown(l, 4); code != impl.Done || !slices.Equal(list, []int{8, 2, 6}) || !sameLatch(d, impl.Latch{Grants: []int{5, 1, 8, 2, 6}}) {
		t.Error("at its end", d, list, code)
	}
}

// TestLatchListsOfOneArray hands in a Line and Grants that lie side by side, so that to add to the one would spoil the other.
func TestLatchListsOfOneArray(t *testing.T) {
	room := []int{8, 2, 5, 1, 7, 9, 9, 9}
	l := impl.Latch{Count: 2, Line: room[:2], Grants: room[2:5]}
	stands, _ := impl.StandAt(l, 3)
	passes, _ := impl.PassLatch(l, 5)
	quits, _ := impl.QuitLatch(l, 8)
	ends, _, _ := impl.CountDown(l, 2)
	if !slices.Equal(room, []int{8, 2, 5, 1, 7, 9, 9, 9}) {
		t.Error("written into", room)
	}
	if !sameLatch(stands, impl.Latch{Count: 2, Line: []int{8, 2, 3}, Grants: []int{5, 1, 7}}) || !sameLatch(passes, impl.Latch{Count: 2, Line: []int{8, 2}, Grants: []int{1, 7}}) {
		t.Error("stand, pass", stands, passes)
	}
	if !sameLatch(quits, impl.Latch{Count: 2, Line: []int{2}, Grants: []int{5, 1, 7}}) || !sameLatch(ends, impl.Latch{Grants: []int{5, 1, 7, 8, 2}}) {
		t.Error("quit, count down", quits, ends)
	}
}

// TestLatchesKeepNothing spoils what is answered and asks once more.
func TestLatchesKeepNothing(t *testing.T) {
	for _, l := range append(rightLatches(), wrongLatches()...) {
		for _, who := range []int{-1, 0, 5, 40} {
			first, told := latchAnswers(l, who)
			var kept []impl.Latch
			for _, d := range first {
				kept = append(kept, cloneLatch(d))
			}
			keptTold := slices.Clone(told)
			lists := [][]int{told}
			for _, d := range first {
				lists = append(lists, d.Line, d.Grants)
			}
			for _, list := range lists {
				spoilWith(list, func(x int) int { return x + 1 })
			}
			second, toldAgain := latchAnswers(l, who)
			for i, d := range second {
				if !sameLatch(d, kept[i]) {
					t.Error("another one the second time", l, who, i, d)
				}
			}
			if !slices.Equal(toldAgain, keptTold) {
				t.Error("others told the second time", l, who, toldAgain)
			}
		}
	}
}

func latchAnswers(l impl.Latch, who int) ([]impl.Latch, []int) {
	ends, told, _ := impl.CountDown(l, l.Count)
	nearly, _, _ := impl.CountDown(l, 1)
	stands, _ := impl.StandAt(l, who)
	passes, _ := impl.PassLatch(l, who)
	quits, _ := impl.QuitLatch(l, who)
	return []impl.Latch{ends, nearly, stands, passes, quits}, told
}

// latchBook knows how much is left to count, who waits and who is free to go on, each in its order.
type latchBook struct {
	left    int
	waiting []int
	free    []int
}

func (b *latchBook) countDown(n int) ([]int, int) {
	switch {
	case n < 1:
		return nil, impl.Bad
	case n > b.left:
		return nil, impl.Over
	case n == b.left && len(b.waiting)+len(b.free) > 32:
		return nil, impl.Full
	}
	b.left -= n
	if b.left > 0 {
		return nil, impl.Done
	}
	list := b.waiting
	b.waiting, b.free = nil, append(slices.Clone(b.free), list...)
	return list, impl.Done
}

func (b *latchBook) standAt(who int) int {
	switch {
	case slices.Contains(b.waiting, who), slices.Contains(b.free, who):
		return impl.There
	case b.left == 0:
		return impl.Done
	case len(b.waiting) == 32:
		return impl.Full
	}
	b.waiting = append(slices.Clone(b.waiting), who)
	return impl.Waits
}

func (b *latchBook) pass(who int) int {
	switch {
	case slices.Contains(b.waiting, who):
		return impl.Waits
	case !slices.Contains(b.free, who):
		return impl.None
	}
	b.free = without(b.free, who)
	return impl.Done
}

func (b *latchBook) quit(who int) int {
	if !slices.Contains(b.waiting, who) && !slices.Contains(b.free, who) {
		return impl.None
	}
	b.waiting, b.free = without(b.waiting, who), without(b.free, who)
	return impl.Done
}

// latchCall is one call of a row: its kind, and the client that calls, or how much is counted down.
type latchCall struct{ kind, n int }

// latchRow is what a row of calls has come to: counted is how much was counted down of the first Count.
type latchRow struct {
	l              impl.Latch
	b              latchBook
	count, counted int
}

func newLatchRow(count int) latchRow {
	return latchRow{l: impl.Latch{Count: count}, b: latchBook{left: count}, count: count}
}

// do does one call of the program and of the book, and holds their answers against each other.
func (s latchRow) do(t *testing.T, x latchCall) latchRow {
	t.Helper()
	var d impl.Latch
	var list, told []int
	var code, want int
	switch x.kind {
	case 0:
		d, list, code = impl.CountDown(s.l, x.n)
		told, want = s.b.countDown(x.n)
	case 1:
		d, code = impl.StandAt(s.l, x.n)
		want = s.b.standAt(x.n)
	case 2:
		d, code = impl.PassLatch(s.l, x.n)
		want = s.b.pass(x.n)
	case 3:
		d, code = impl.QuitLatch(s.l, x.n)
		want = s.b.quit(x.n)
	}
	if code != want || !slices.Equal(list, told) || !sameLatch(d, impl.Latch{Count: s.b.left, Line: s.b.waiting, Grants: s.b.free}) || !impl.LatchOk(d) {
		t.Fatal("latch and book", s.l, x, d, list, code, told, want)
	}
	if x.kind == 0 && code == impl.Done {
		s.counted += x.n
	}
	s.l = d
	s.checkEnd(t, x, list, code)
	return s
}

// checkEnd: ahead of the end nobody goes on, behind it nobody waits.
func (s latchRow) checkEnd(t *testing.T, x latchCall, list []int, code int) {
	t.Helper()
	goes := code == impl.Done && (x.kind == 1 || x.kind == 2)
	if s.counted < s.count && (goes || len(list) > 0 || len(s.l.Grants) > 0) {
		t.Fatal("ahead of its end", s, x, list, code)
	}
	if s.counted == s.count && (code == impl.Waits || len(s.l.Line) > 0) {
		t.Fatal("behind its end", s, x, code)
	}
	if s.counted > s.count || s.l.Count != s.count-s.counted {
		t.Fatal("counted", s, x)
	}
}

// TestEveryRowOfALatch does all rows of calls by three clients, going on from each latch just once until there is no other one.
func TestEveryRowOfALatch(t *testing.T) {
	calls := []latchCall{{0, -1}, {0, 0}, {0, 1}, {0, 2}, {0, 3}}
	for kind := 1; kind <= 3; kind++ {
		for who := range 3 {
			calls = append(calls, latchCall{kind, who})
		}
	}
	for count := range 5 {
		seen := map[string]bool{}
		states := []latchRow{newLatchRow(count)}
		for len(states) > 0 {
			s := states[0]
			states = states[1:]
			for _, x := range calls {
				d := s.do(t, x)
				if key := fmt.Sprint(d.l); !seen[key] {
					seen[key] = true
					states = append(states, d)
				}
			}
		}
		// Each order of each few of three, in Line with each count above 0, and in Grants at 0 if there was a count.
		want := 16 * (count + 1)
		if count == 0 {
			want = 1
		}
		if len(seen) != want {
			t.Error("latches come to", count, len(seen))
		}
	}
}

// TestLongRowsOfALatch goes on with many clients, by chance, to the end and behind it.
func TestLongRowsOfALatch(t *testing.T) {
	fullLine, ends := 0, 0
	for seed := range uint64(120) {
		r := rand.New(rand.NewPCG(seed, 13))
		clients := []int{2, 5, 40, 64}[seed%4]
		s := newLatchRow([]int{3, 40, 200, most}[seed/4%4])
		for range 300 {
			x := latchCall{kind: weighed(r, [5]int{2, 12, 2, 1, 0}), n: r.IntN(clients)}
			if x.kind == 0 {
				parts := []int{r.IntN(2) - 1, 1 + r.IntN(3), s.l.Count / 2, s.l.Count, s.l.Count + 1}
				x.n = parts[weighed(r, [5]int{4, 20, 6, 1, 3})]
			}
			s = s.do(t, x)
			if len(s.l.Line) == 32 {
				fullLine++
			}
		}
		if s.l.Count == 0 {
			ends++
		}
	}
	if fullLine < 100 || ends < 30 {
		t.Error("these rows come to too little", fullLine, ends)
	}
}

// TestALatchCountedDownInParts goes through all parts of a count, with each number of clients that wait: only the last part lets them go, and as all at once would.
func TestALatchCountedDownInParts(t *testing.T) {
	for count := 1; count <= 6; count++ {
		for _, n := range []int{0, 1, 2, 32} {
			start := impl.Latch{Count: count, Line: upTo(7, n)}
			once, toldAtOnce, _ := impl.CountDown(start, count)
			eachList(upTo(1, count), count, func(parts []int) {
				sum := 0
				for _, p := range parts {
					sum += p
				}
				if sum != count {
					return
				}
				l := start
				for i, p := range parts {
					d, list, code := impl.CountDown(l, p)
					last := i == len(parts)-1
					if code != impl.Done || !last && (len(list) > 0 || !slices.Equal(d.Line, start.Line)) || last && (!slices.Equal(list, toldAtOnce) || !sameLatch(d, once)) {
						t.Fatal("parts", parts, i, n, d, list, code)
					}
					l = d
				}
				if !slices.Equal(l.Grants, start.Line) || !slices.Equal(toldAtOnce, start.Line) {
					t.Fatal("all of them", parts, n, l)
				}
			})
		}
	}
}

// TestALatchFromItsGreatestCount is counted down to one, at which all still wait, and to its end, behind which all go on and who comes does so at once.
func TestALatchFromItsGreatestCount(t *testing.T) {
	l := impl.Latch{Count: most}
	for who := range 32 {
		l, _ = impl.StandAt(l, who)
	}
	for _, p := range []int{1, most - 2} {
		d, list, code := impl.CountDown(l, p)
		if code != impl.Done || len(list) != 0 || d.Count != l.Count-p || !slices.Equal(d.Line, upTo(0, 32)) {
			t.Fatal("ahead of its end", p, d, list, code)
		}
		for who := range 32 {
			if _, code := impl.PassLatch(d, who); code != impl.Waits {
				t.Fatal("ahead of its end", p, who, code)
			}
		}
		l = d
	}
	l, list, code := impl.CountDown(l, 1)
	if code != impl.Done || !slices.Equal(list, upTo(0, 32)) || !sameLatch(l, impl.Latch{Grants: upTo(0, 32)}) {
		t.Fatal("at its end", l, list, code)
	}
	for who := 32; who < 64; who++ {
		if d, code := impl.StandAt(l, who); code != impl.Done || !sameLatch(d, l) {
			t.Fatal("behind its end", who, d, code)
		}
	}
	for who := range 32 {
		if l, code = impl.PassLatch(l, who); code != impl.Done {
			t.Fatal("who waited goes on", who, code)
		}
	}
	if !sameLatch(l, impl.Latch{}) {
		t.Error("all have gone on", l)
	}
}
