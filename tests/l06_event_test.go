package tests

import (
	"fmt"
	"math"
	"math/rand/v2"
	"slices"
	"testing"

	"loop.example/g00098/impl"
)

// raisingsIn is how many raisings an Auto event must have counted.
func raisingsIn(e impl.Event) int {
	held := e.Spilt + e.Taken + len(e.Grants)
	if e.Up {
		held++
	}
	return held
}

// autoOne has as many Sets as it has to.
func autoOne(up bool, line []int, grants []int, spilt int, taken int) impl.Event {
	e := impl.Event{Auto: true, Up: up, Line: line, Grants: grants, Spilt: spilt, Taken: taken}
	e.Sets = raisingsIn(e)
	return e
}

func manualOne(up bool, line []int, grants []int) impl.Event {
	return impl.Event{Up: up, Line: line, Grants: grants}
}

func cloneEvent(e impl.Event) impl.Event {
	e.Line, e.Grants = slices.Clone(e.Line), slices.Clone(e.Grants)
	return e
}

func sameEvent(a impl.Event, b impl.Event) bool {
	return a.Auto == b.Auto && a.Up == b.Up && slices.Equal(a.Line, b.Line) && slices.Equal(a.Grants, b.Grants) && a.Sets == b.Sets && a.Spilt == b.Spilt && a.Taken == b.Taken
}

// bothAreRight is what a Line and Grants must be, of an event or of a latch.
func bothAreRight(line []int, grants []int) bool {
	return lineIsRight(line) && lineIsRight(grants) && !slices.ContainsFunc(grants, func(who int) bool { return slices.Contains(line, who) })
}

func eventIsRight(e impl.Event) bool {
	if !bothAreRight(e.Line, e.Grants) || e.Up && len(e.Line) > 0 {
		return false
	}
	if !e.Auto {
		return e.Sets == 0 && e.Spilt == 0 && e.Taken == 0
	}
	for _, count := range []int{e.Sets, e.Spilt, e.Taken} {
		if count < 0 || count > most {
			return false
		}
	}
	return e.Sets == raisingsIn(e)
}

// eventShapes are right ones with few counted: Line and Grants with none, one, some and as many as there can be.
func eventShapes() []impl.Event {
	list := []impl.Event{
		{}, {Line: []int{}, Grants: []int{}}, {Auto: true}, {Auto: true, Line: []int{}, Grants: []int{}}, {Up: true},
		autoOne(true, nil, nil, 0, 0), autoOne(true, nil, nil, 3, 0), autoOne(false, nil, nil, 2, 5), autoOne(true, nil, []int{0}, 0, 1),
		autoOne(false, []int{5, 2}, []int{9, 1, 7, 0}, 1, 2), manualOne(false, []int{5, 2}, []int{9, 1, 7, 0}), manualOne(true, nil, []int{7, 0, 63}),
		autoOne(false, []int{63}, []int{0}, 0, 0), manualOne(false, []int{0}, []int{63}),
	}
	for _, n := range []int{0, 1, 2, 5, 31, 32} {
		for _, k := range []int{0, 1, 2, 5, 31, 32} {
			grants, line := upTo(0, n), upTo(32, k)
			slices.Reverse(line)
			list = append(list, autoOne(false, line, grants, 1, 0), autoOne(false, line, grants, 0, 4), manualOne(false, line, grants))
			if k == 0 {
				list = append(list, autoOne(true, nil, grants, 0, 3), autoOne(true, nil, grants, 5, 0), manualOne(true, nil, grants))
			}
		}
	}
	return append(list, manualOne(false, upTo(10, 1), upTo(30, 31)), manualOne(false, upTo(10, 2), upTo(30, 31)), manualOne(false, upTo(0, 31), []int{60}), manualOne(false, upTo(0, 31), []int{60, 50}))
}

// heavyEvents are Auto ones whose counts stand at their bounds or beside them.
func heavyEvents() []impl.Event {
	var list []impl.Event
	for _, e := range eventShapes() {
		if !e.Auto {
			continue
		}
		held := raisingsIn(e) - e.Taken - e.Spilt
		for _, left := range []int{0, 1, 2} {
			room := most - held - left
			for _, spilt := range []int{0, 1, room / 2, room - 1, room} {
				list = append(list, autoOne(e.Up, e.Line, e.Grants, spilt, room-spilt))
			}
		}
	}
	return list
}

func rightEvents() []impl.Event { return append(eventShapes(), heavyEvents()...) }

// wrongPairs are a Line and Grants that do not go together, or of which one is wrong by itself.
func wrongPairs() [][2][]int {
	var list [][2][]int
	for _, line := range wrongLines() {
		list = append(list, [2][]int{line, nil}, [2][]int{line, {50, 3}}, [2][]int{nil, line}, [2][]int{{40, 41}, line})
	}
	for _, n := range []int{33, 34, 64, 1000} {
		list = append(list, [2][]int{nil, upTo(0, n)}, [2][]int{{63}, upTo(0, n)})
	}
	return append(list,
		[2][]int{{4}, {4}}, [2][]int{{0}, {0}}, [2][]int{{63}, {63}}, [2][]int{{1, 2, 3}, {9, 3}}, [2][]int{{3, 2, 1}, {3, 9}}, [2][]int{{1, 2}, {1, 2}},
		[2][]int{upTo(0, 32), {31}}, [2][]int{upTo(0, 32), {0}}, [2][]int{upTo(0, 32), upTo(31, 32)}, [2][]int{upTo(0, 32), upTo(0, 32)},
		[2][]int{nil, {4, 4}}, [2][]int{nil, {4, 5, 4}}, [2][]int{{1}, append(upTo(2, 31), 2)},
	)
}

// wrongEvents are not EventOk, each for a reason of its own, some for several.
func wrongEvents() []impl.Event {
	var list []impl.Event
	for _, p := range wrongPairs() {
		list = append(list, manualOne(false, p[0], p[1]), manualOne(true, p[0], p[1]), autoOne(false, p[0], p[1], 0, 0), autoOne(true, p[0], p[1], 1, 2))
	}
	for _, e := range eventShapes() {
		if len(e.Line) > 0 {
			up := e
			up.Up = true
			list = append(list, up)
			if e.Auto {
				list = append(list, autoOne(true, e.Line, e.Grants, e.Spilt, e.Taken))
			}
		}
		for _, sets := range []int{e.Sets - 1, e.Sets + 1, e.Sets + 2, e.Sets + 1<<32, -e.Sets - 1, most, most + 1, -1, math.MaxInt, math.MinInt} {
			x := e
			x.Sets = sets
			list = append(list, x)
		}
	}
	return append(list, wrongEventCounts()...)
}

// wrongEventCounts have a count out of its bounds, most of them with Sets that would be right, and some that are right only as numbers go round; or they are not Auto and count.
func wrongEventCounts() []impl.Event {
	var list []impl.Event
	for _, e := range eventShapes()[:14] {
		if !e.Auto {
			for _, n := range []int{-1, 1, most, math.MaxInt, math.MinInt} {
				for _, counts := range [][3]int{{n, 0, 0}, {0, n, 0}, {0, 0, n}, {n, n, 0}, {n, 0, n}, {0, n, -n}, {n, n, n}, {n + len(e.Grants), n, 0}, {n + len(e.Grants) + 1, 0, n}} {
					x := e
					x.Sets, x.Spilt, x.Taken = counts[0], counts[1], counts[2]
					list = append(list, x)
				}
			}
			x := autoOne(e.Up, e.Line, e.Grants, 2, 3)
			x.Auto = false
			list = append(list, x)
			continue
		}
		rest := raisingsIn(e) - e.Spilt - e.Taken
		for _, bad := range []int{-1, -2, -most, most + 1, most + 2, 1 << 32, -1 << 32, math.MaxInt, math.MinInt} {
			for _, good := range []int{0, 1, most - 1, most} {
				list = append(list, autoOne(e.Up, e.Line, e.Grants, bad, good), autoOne(e.Up, e.Line, e.Grants, good, bad), autoOne(e.Up, e.Line, e.Grants, bad, good-bad))
			}
		}
		list = append(list, autoOne(e.Up, e.Line, e.Grants, most, 1), autoOne(e.Up, e.Line, e.Grants, 1, most), autoOne(e.Up, e.Line, e.Grants, most, most), autoOne(e.Up, e.Line, e.Grants, most-rest+1, 0), autoOne(e.Up, e.Line, e.Grants, 0, most-rest+1))
	}
	return list
}

func roomyEvent(e impl.Event) impl.Event {
	e.Line, e.Grants = roomy(e.Line), roomy(e.Grants)
	return e
}

// checkBothApart looks at the two lists of an argument, and at all that were answered.
func checkBothApart(t *testing.T, what string, given [2][]int, lists [2][]int, answers ...[]int) {
	t.Helper()
	for i := range given {
		checkApart(t, what, given[i], lists[i], answers...)
	}
}

type eventAnswer struct {
	e    impl.Event
	told []int
	code int
}

// checkEventAnswer holds an answer against the one that is wanted, and looks at the memory; given was made of e.
func checkEventAnswer(t *testing.T, what string, given impl.Event, e impl.Event, got eventAnswer, want eventAnswer) {
	t.Helper()
	if !sameEvent(got.e, want.e) || !slices.Equal(got.told, want.told) || got.code != want.code {
		t.Errorf("%s of %+v = %+v; want %+v", what, e, got, want)
	}
	checkBothApart(t, what, [2][]int{given.Line, given.Grants}, [2][]int{e.Line, e.Grants}, got.e.Line, got.e.Grants, got.told)
}

func checkEventOk(t *testing.T, e impl.Event) {
	t.Helper()
	given := roomyEvent(e)
	if ok := impl.EventOk(given); ok != eventIsRight(e) {
		t.Errorf("EventOk(%+v) = %v", e, ok)
	}
	checkBothApart(t, "EventOk", [2][]int{given.Line, given.Grants}, [2][]int{e.Line, e.Grants})
}

// raisingPlaced is where a raising of an Auto event goes: who is let go, if one waits.
func raisingPlaced(e *impl.Event) []int {
	if len(e.Line) > 0 {
		told := slices.Clone(e.Line[:1])
		e.Line = e.Line[1:]
		e.Grants = append(e.Grants, told...)
		return told
	}
	if e.Up {
		e.Spilt++
	}
	e.Up = true
	return nil
}

func checkRaise(t *testing.T, e impl.Event) {
	t.Helper()
	want, told, code := cloneEvent(e), []int(nil), impl.Done
	switch {
	case !eventIsRight(e):
		code = impl.Bad
	case e.Auto && (e.Sets == most || len(e.Line) > 0 && len(e.Grants) == 32):
		code = impl.Full
	case !e.Auto && len(e.Line)+len(e.Grants) > 32:
		code = impl.Full
	case e.Auto:
		want.Sets++
		told = raisingPlaced(&want)
	default:
		told = e.Line
		want.Up, want.Line, want.Grants = true, nil, append(want.Grants, told...)
	}
	given := roomyEvent(e)
	d, list, c := impl.Raise(given)
	checkEventAnswer(t, "Raise", given, e, eventAnswer{d, list, c}, eventAnswer{want, told, code})
}

func checkReset(t *testing.T, e impl.Event) {
	t.Helper()
	want, code := cloneEvent(e), impl.Done
	if !eventIsRight(e) {
		code = impl.Bad
	} else {
		want.Up = false
		if e.Auto && e.Up {
			want.Spilt++
		}
	}
	given := roomyEvent(e)
	d, c := impl.Reset(given)
	checkEventAnswer(t, "Reset", given, e, eventAnswer{d, nil, c}, eventAnswer{want, nil, code})
}

func checkStand(t *testing.T, e impl.Event, who int) {
	t.Helper()
	want, code := cloneEvent(e), impl.Done
	switch {
	case !eventIsRight(e), who < 0, who > 63:
		code = impl.Bad
	case slices.Contains(e.Line, who), slices.Contains(e.Grants, who):
		code = impl.There
	case e.Auto && e.Taken == most, !e.Up && len(e.Line) == 32:
		code = impl.Full
	case e.Up && e.Auto:
		want.Up = false
		want.Taken++
	case !e.Up:
		want.Line = append(want.Line, who)
		code = impl.Waits
	}
	given := roomyEvent(e)
	d, c := impl.Stand(given, who)
	checkEventAnswer(t, fmt.Sprint("Stand by ", who), given, e, eventAnswer{d, nil, c}, eventAnswer{want, nil, code})
}

func checkGoOn(t *testing.T, e impl.Event, who int) {
	t.Helper()
	want, code := cloneEvent(e), impl.Done
	switch {
	case !eventIsRight(e):
		code = impl.Bad
	case slices.Contains(e.Line, who):
		code = impl.Waits
	case !slices.Contains(e.Grants, who):
		code = impl.None
	default:
		want.Grants = without(e.Grants, who)
		if e.Auto {
			want.Taken++
		}
	}
	given := roomyEvent(e)
	d, c := impl.GoOn(given, who)
	checkEventAnswer(t, fmt.Sprint("GoOn by ", who), given, e, eventAnswer{d, nil, c}, eventAnswer{want, nil, code})
}

func checkStepBack(t *testing.T, e impl.Event, who int) {
	t.Helper()
	want, told, code := cloneEvent(e), []int(nil), impl.Done
	switch {
	case !eventIsRight(e):
		code = impl.Bad
	case slices.Contains(e.Line, who):
		want.Line = without(e.Line, who)
	case !slices.Contains(e.Grants, who):
		code = impl.None
	default:
		want.Grants = without(e.Grants, who)
		if e.Auto {
			told = raisingPlaced(&want)
		}
	}
	given := roomyEvent(e)
	d, list, c := impl.StepBack(given, who)
	checkEventAnswer(t, fmt.Sprint("StepBack by ", who), given, e, eventAnswer{d, list, c}, eventAnswer{want, told, code})
}

// checkEvent asks every function of events at e.
func checkEvent(t *testing.T, e impl.Event, whos []int) {
	t.Helper()
	checkEventOk(t, e)
	checkRaise(t, e)
	checkReset(t, e)
	for _, who := range whos {
		checkStand(t, e, who)
		checkGoOn(t, e, who)
		checkStepBack(t, e, who)
	}
}

func TestEventLimits(t *testing.T) {
	for _, e := range rightEvents() {
		if !impl.EventOk(e) {
			t.Error("not right", e)
		}
	}
	for _, e := range wrongEvents() {
		if impl.EventOk(e) {
			t.Error("right", e)
		}
	}
}

func TestEventsAtTheirEdges(t *testing.T) {
	for _, e := range append(rightEvents(), wrongEvents()...) {
		checkEvent(t, e, whosAround(e.Line, e.Grants))
	}
}

// TestEveryEventCountAtItsEdges has each of the three counts at each of its edges, whatever the others are.
func TestEveryEventCountAtItsEdges(t *testing.T) {
	edges := []int{-1, 0, 1, most - 1, most, most + 1}
	for _, shape := range []impl.Event{{}, {Up: true}, {Line: []int{3}}, {Grants: []int{3}}, {Up: true, Grants: []int{3}}, {Line: []int{4}, Grants: []int{3}}, {Up: true, Line: []int{4}}} {
		for i := range 2 * len(edges) * len(edges) * len(edges) {
			e := shape
			e.Auto = i%2 == 1
			e.Sets, e.Spilt, e.Taken = edges[i/2%6], edges[i/12%6], edges[i/72]
			checkEvent(t, e, []int{-1, 0, 3, 4, 63, 64})
		}
	}
}

// TestEveryFewAtAnEvent goes through all of up to two in Line and up to two in Grants, right ones and wrong ones.
func TestEveryFewAtAnEvent(t *testing.T) {
	eachList([]int{-1, 0, 1, 63, 64}, 2, func(line []int) {
		eachList([]int{-1, 0, 1, 63, 64}, 2, func(grants []int) {
			for i := range 12 {
				e := autoOne(i%2 == 0, line, grants, i/2%2, 0)
				e.Sets += i/4 - 1
				checkEvent(t, e, []int{-1, 0, 1, 63, 64})
			}
			checkEvent(t, manualOne(false, line, grants), []int{-1, 0, 1, 63, 64})
			checkEvent(t, manualOne(true, line, grants), []int{-1, 0, 1, 63, 64})
		})
	})
}

// TestEveryRightFewAtAnEvent goes through more of them, all right: each order in Line and in Grants.
func TestEveryRightFewAtAnEvent(t *testing.T) {
	eachList(upTo(5, 4), 4, func(line []int) {
		if !lineIsRight(line) {
			return
		}
		eachList(upTo(5, 4), 4-len(line), func(grants []int) {
			for _, up := range []bool{false, true} {
				for _, e := range []impl.Event{autoOne(up, line, grants, 1, 2), manualOne(up, line, grants)} {
					if eventIsRight(e) {
						checkEvent(t, e, upTo(4, 6))
					}
				}
			}
		})
	})
}

// TestTheFirstReasonToRefuseStand has several reasons to refuse, and the answer written out.
func TestTheFirstReasonToRefuseStand(t *testing.T) {
	full, told := upTo(0, 32), upTo(32, 32)
	for i, x := range []struct {
		e    impl.Event
		who  int
		code int
	}{
		{autoOne(false, full, nil, 0, most), 64, impl.Bad}, {autoOne(false, full, nil, 0, most), -1, impl.Bad}, {manualOne(false, full, told), 64, impl.Bad}, {manualOne(false, full, told), -1, impl.Bad},
		{autoOne(false, full, nil, 0, most), 31, impl.There}, {autoOne(false, full, nil, 0, most), 32, impl.Full},
		{autoOne(false, full, told, 0, 0), 0, impl.There}, {autoOne(false, full, told, 0, 0), 63, impl.There}, {manualOne(false, full, told), 0, impl.There}, {manualOne(false, full, told), 63, impl.There},
		{autoOne(false, full, nil, 0, 0), 32, impl.Full}, {manualOne(false, full, nil), 32, impl.Full}, {autoOne(false, full[:31], nil, 0, 0), 32, impl.Waits}, {manualOne(false, full[:31], nil), 32, impl.Waits},
		{autoOne(false, nil, told, 0, 0), 0, impl.Waits}, {manualOne(false, nil, told), 0, impl.Waits}, {manualOne(true, nil, told), 0, impl.Done}, {manualOne(true, nil, told), 32, impl.There}, {autoOne(true, nil, told, 0, 0), 0, impl.Done}, {autoOne(true, nil, told, 0, 0), 32, impl.There},
		{autoOne(false, nil, nil, 0, most), 0, impl.Full}, {autoOne(false, nil, nil, 0, most-1), 0, impl.Waits}, {autoOne(true, nil, nil, 0, most-1), 0, impl.Done}, {autoOne(true, nil, nil, 0, most), 0, impl.Bad},
		{autoOne(false, nil, nil, most, 0), 0, impl.Waits}, {autoOne(true, nil, nil, most-1, 0), 0, impl.Done}, {autoOne(false, nil, []int{0}, 0, most-1), 0, impl.There},
		{manualOne(true, full, nil), 63, impl.Bad}, {manualOne(true, full, nil), 31, impl.Bad}, {autoOne(true, full, nil, 0, 0), 31, impl.Bad}, {impl.Event{Taken: most, Sets: most}, 0, impl.Bad},
	} {
		if d, code := impl.Stand(x.e, x.who); code != x.code || code != impl.Done && code != impl.Waits && !sameEvent(d, x.e) {
			t.Error("stand", i, x.who, code)
		}
	}
}

// TestTheFirstReasonToRefuseRaise has its answers written out too.
func TestTheFirstReasonToRefuseRaise(t *testing.T) {
	told := upTo(32, 32)
	for i, x := range []struct {
		e    impl.Event
		code int
	}{
		{autoOne(false, nil, nil, 0, most), impl.Full}, {autoOne(true, nil, nil, most-1, 0), impl.Full}, {autoOne(true, nil, nil, most-2, 0), impl.Done}, {autoOne(false, nil, nil, most-1, 0), impl.Done},
		{autoOne(false, []int{1}, nil, most, 0), impl.Full}, {autoOne(false, []int{1}, nil, most-1, 0), impl.Done}, {autoOne(true, nil, nil, most, 0), impl.Bad}, {autoOne(false, nil, nil, most, 1), impl.Bad},
		{autoOne(false, []int{1}, told, 0, 0), impl.Full}, {autoOne(false, nil, told, 0, 0), impl.Done}, {autoOne(true, nil, told, 0, 0), impl.Done}, {autoOne(false, []int{1}, told[1:], 0, 0), impl.Done},
		{autoOne(false, upTo(0, 32), told[1:], 0, 0), impl.Done}, {autoOne(false, []int{1}, upTo(31, 33), 0, 0), impl.Bad}, {autoOne(true, []int{1}, told, 0, 0), impl.Bad},
		{manualOne(false, []int{1}, told), impl.Full}, {manualOne(false, []int{1}, told[1:]), impl.Done}, {manualOne(false, []int{1, 2}, told[1:]), impl.Full}, {manualOne(true, nil, told), impl.Done}, {manualOne(true, []int{1}, told), impl.Bad},
	} {
		if d, list, code := impl.Raise(x.e); code != x.code || code != impl.Done && (len(list) != 0 || !sameEvent(d, x.e)) {
			t.Error("raise", i, list, code)
		}
	}
}

// TestRaiseWhereItIsFull has a Line and Grants that are MaxLine together, and one more, in each way.
func TestRaiseWhereItIsFull(t *testing.T) {
	for k := range 33 {
		e := manualOne(false, upTo(0, k), upTo(32, 32-k))
		d, list, code := impl.Raise(e)
		if code != impl.Done || !slices.Equal(list, upTo(0, k)) || !sameEvent(d, manualOne(true, nil, append(upTo(32, 32-k), upTo(0, k)...))) {
			t.Error("just as many as there can be", k, d, list, code)
		}
		if k == 0 {
			continue
		}
		e = manualOne(false, upTo(0, k), upTo(32, 33-k))
		if d, list, code := impl.Raise(e); code != impl.Full || len(list) != 0 || !sameEvent(d, e) {
			t.Error("one more", k, d, list, code)
		}
	}
}

// TestResetOfBothKinds: what an Auto one is up by is spilt, and nothing else is counted.
func TestResetOfBothKinds(t *testing.T) {
	for i, x := range []struct {
		e, want impl.Event
		code    int
	}{
		{impl.Event{Auto: true, Up: true, Sets: 1}, impl.Event{Auto: true, Sets: 1, Spilt: 1}, impl.Done},
		{impl.Event{Auto: true}, impl.Event{Auto: true}, impl.Done},
		{impl.Event{Auto: true, Sets: 7, Spilt: 3, Taken: 4}, impl.Event{Auto: true, Sets: 7, Spilt: 3, Taken: 4}, impl.Done},
		{impl.Event{Auto: true, Up: true, Grants: []int{5, 2}, Sets: 10, Spilt: 3, Taken: 4}, impl.Event{Auto: true, Grants: []int{5, 2}, Sets: 10, Spilt: 4, Taken: 4}, impl.Done},
		{impl.Event{Auto: true, Line: []int{1, 9}, Grants: []int{5}, Sets: 1}, impl.Event{Auto: true, Line: []int{1, 9}, Grants: []int{5}, Sets: 1}, impl.Done},
		{impl.Event{Auto: true, Up: true, Sets: most, Spilt: most - 1}, impl.Event{Auto: true, Sets: most, Spilt: most}, impl.Done},
		{impl.Event{Auto: true, Sets: most, Spilt: most}, impl.Event{Auto: true, Sets: most, Spilt: most}, impl.Done},
		{impl.Event{Auto: true, Up: true, Sets: most, Spilt: most}, impl.Event{Auto: true, Up: true, Sets: most, Spilt: most}, impl.Bad},
		{impl.Event{Auto: true, Up: true, Sets: most + 1, Spilt: most}, impl.Event{Auto: true, Up: true, Sets: most + 1, Spilt: most}, impl.Bad},
		{impl.Event{Auto: true, Up: true}, impl.Event{Auto: true, Up: true}, impl.Bad},
		{impl.Event{Up: true}, impl.Event{}, impl.Done}, {impl.Event{}, impl.Event{}, impl.Done},
		{impl.Event{Up: true, Grants: []int{5, 2}}, impl.Event{Grants: []int{5, 2}}, impl.Done},
		{impl.Event{Line: []int{3}, Grants: []int{5, 2}}, impl.Event{Line: []int{3}, Grants: []int{5, 2}}, impl.Done},
		{impl.Event{Up: true, Sets: 1}, impl.Event{Up: true, Sets: 1}, impl.Bad}, {impl.Event{Up: true, Line: []int{3}}, impl.Event{Up: true, Line: []int{3}}, impl.Bad},
	} {
		d, code := impl.Reset(x.e)
		if code != x.code || !sameEvent(d, x.want) || impl.EventOk(d) != (code == impl.Done) {
			t.Error("reset", i, d, code)
		}
	}
}

// TestEventCountsThatCannotBe has GoOn and StepBack where Taken or Spilt is at its greatest and would have to be one more: Sets would be above theirs.
func TestEventCountsThatCannotBe(t *testing.T) {
	for _, sets := range []int{most, most + 1, most + 2} {
		for _, e := range []impl.Event{
			{Auto: true, Grants: []int{3}, Sets: sets, Taken: most}, {Auto: true, Grants: []int{3}, Line: []int{4}, Sets: sets, Taken: most},
			{Auto: true, Up: true, Grants: []int{3}, Sets: sets, Spilt: most}, {Auto: true, Grants: []int{3}, Sets: sets, Spilt: most}, {Auto: true, Grants: []int{3}, Line: []int{4}, Sets: sets, Spilt: most},
			{Grants: []int{3}, Sets: sets, Taken: most}, {Up: true, Grants: []int{3}, Sets: sets, Spilt: most},
		} {
			for _, who := range []int{3, 4, 5} {
				if d, code := impl.GoOn(e, who); code != impl.Bad || !sameEvent(d, e) {
					t.Error("go on", e, who, d, code)
				}
				if d, list, code := impl.StepBack(e, who); code != impl.Bad || len(list) != 0 || !sameEvent(d, e) {
					t.Error("step back", e, who, d, list, code)
				}
			}
		}
	}
	if d, code := impl.GoOn(autoOne(false, nil, []int{3}, 0, most-1), 3); code != impl.Done || !sameEvent(d, autoOne(false, nil, nil, 0, most)) {
		t.Error("the last one that can be taken", d, code)
	}
	if d, list, code := impl.StepBack(autoOne(true, nil, []int{3}, most-2, 0), 3); code != impl.Done || len(list) != 0 || !sameEvent(d, autoOne(true, nil, nil, most-1, 0)) {
		t.Error("the last one that can be spilt", d, list, code)
	}
	e := autoOne(false, []int{4}, []int{3}, most-1, 0)
	if d, list, code := impl.StepBack(e, 3); code != impl.Done || !slices.Equal(list, []int{4}) || !sameEvent(d, autoOne(false, nil, []int{4}, most-1, 0)) {
		t.Error("passed on", d, list, code)
	}
}

// TestEventByHand has its answers written out, so that it leans on no second way to work them out.
func TestEventByHand(t *testing.T) {
	auto := impl.Event{Auto: true, Line: []int{8, 2}, Grants: []int{5, 1, 7}, Sets: 10, Spilt: 3, Taken: 4}
	manual := impl.Event{Line: []int{8, 2}, Grants: []int{5, 1, 7}}
	for _, x := range []struct {
		e    impl.Event
		who  int
		want impl.Event
		told []int
		code int
	}{
		{auto, 8, impl.Event{Auto: true, Line: []int{2}, Grants: []int{5, 1, 7}, Sets: 10, Spilt: 3, Taken: 4}, nil, impl.Done},
		{auto, 2, impl.Event{Auto: true, Line: []int{8}, Grants: []int{5, 1, 7}, Sets: 10, Spilt: 3, Taken: 4}, nil, impl.Done},
		{auto, 5, impl.Event{Auto: true, Line: []int{2}, Grants: []int{1, 7, 8}, Sets: 10, Spilt: 3, Taken: 4}, []int{8}, impl.Done},
		{auto, 1, impl.Event{Auto: true, Line: []int{2}, Grants: []int{5, 7, 8}, Sets: 10, Spilt: 3, Taken: 4}, []int{8}, impl.Done},
		{auto, 7, impl.Event{Auto: true, Line: []int{2}, Grants: []int{5, 1, 8}, Sets: 10, Spilt: 3, Taken: 4}, []int{8}, impl.Done},
		{auto, 0, auto, nil, impl.None}, {auto, -1, auto, nil, impl.None}, {auto, 64, auto, nil, impl.None},
		{manual, 8, impl.Event{Line: []int{2}, Grants: []int{5, 1, 7}}, nil, impl.Done},
		{manual, 5, impl.Event{Line: []int{8, 2}, Grants: []int{1, 7}}, nil, impl.Done},
		{manual, 7, impl.Event{Line: []int{8, 2}, Grants: []int{5, 1}}, nil, impl.Done},
		{manual, 0, manual, nil, impl.None}, {manual, -1, manual, nil, impl.None}, {manual, 64, manual, nil, impl.None},
		{impl.Event{Auto: true, Grants: []int{5}, Sets: 1}, 5, impl.Event{Auto: true, Up: true, Sets: 1}, nil, impl.Done},
		{impl.Event{Auto: true, Up: true, Grants: []int{5}, Sets: 2}, 5, impl.Event{Auto: true, Up: true, Sets: 2, Spilt: 1}, nil, impl.Done},
		{impl.Event{Up: true, Grants: []int{5}}, 5, impl.Event{Up: true}, nil, impl.Done}, {impl.Event{Grants: []int{5}}, 5, impl.Event{}, nil, impl.Done},
	} {
		if d, list, code := impl.StepBack(x.e, x.who); code != x.code || !slices.Equal(list, x.told) || !sameEvent(d, x.want) {
			t.Error("step back", x.e, x.who, d, list, code)
		}
	}
	for _, x := range []struct {
		e    impl.Event
		who  int
		want impl.Event
		code int
	}{
		{auto, 8, auto, impl.Waits}, {auto, 2, auto, impl.Waits}, {auto, 0, auto, impl.None}, {auto, -1, auto, impl.None}, {auto, 64, auto, impl.None},
		{auto, 5, impl.Event{Auto: true, Line: []int{8, 2}, Grants: []int{1, 7}, Sets: 10, Spilt: 3, Taken: 5}, impl.Done},
		{auto, 1, impl.Event{Auto: true, Line: []int{8, 2}, Grants: []int{5, 7}, Sets: 10, Spilt: 3, Taken: 5}, impl.Done},
		{manual, 8, manual, impl.Waits}, {manual, 0, manual, impl.None}, {manual, -1, manual, impl.None}, {manual, 64, manual, impl.None},
		{manual, 1, impl.Event{Line: []int{8, 2}, Grants: []int{5, 7}}, impl.Done}, {impl.Event{Up: true, Grants: []int{9}}, 9, impl.Event{Up: true}, impl.Done},
	} {
		if d, code := impl.GoOn(x.e, x.who); code != x.code || !sameEvent(d, x.want) {
			t.Error("go on", x.e, x.who, d, code)
		}
	}
	one := impl.Event{Auto: true, Line: []int{2}, Grants: []int{5, 1, 7, 8}, Sets: 11, Spilt: 3, Taken: 4}
	if d, list, code := impl.Raise(auto); code != impl.Done || !slices.Equal(list, []int{8}) || !sameEvent(d, one) {
		t.Error("one", d, list, code)
	}
	all := impl.Event{Up: true, Grants: []int{5, 1, 7, 8, 2}}
	if d, list, code := impl.Raise(manual); code != impl.Done || !slices.Equal(list, []int{8, 2}) || !sameEvent(d, all) {
		t.Error("all", d, list, code)
	}
	if d, list, code := impl.Raise(all); code != impl.Done || len(list) != 0 || !sameEvent(d, all) {
		t.Error("up already", d, list, code)
	}
}

// TestRaisingsNobodyStandsFor come to one that an Auto event is up by, and the others are spilt.
func TestRaisingsNobodyStandsFor(t *testing.T) {
	e := impl.Event{Auto: true}
	for i := 1; i <= 5; i++ {
		d, list, code := impl.Raise(e)
		if code != impl.Done || len(list) != 0 || !sameEvent(d, impl.Event{Auto: true, Up: true, Sets: i, Spilt: i - 1}) {
			t.Fatal("raising", i, d, list, code)
		}
		e = d
	}
	e, code := impl.Stand(e, 9)
	if code != impl.Done || !sameEvent(e, impl.Event{Auto: true, Sets: 5, Spilt: 4, Taken: 1}) {
		t.Fatal("at once", e, code)
	}
	e, code = impl.Stand(e, 9)
	if code != impl.Waits || !sameEvent(e, impl.Event{Auto: true, Line: []int{9}, Sets: 5, Spilt: 4, Taken: 1}) {
		t.Fatal("there was but one", e, code)
	}
}

// TestEventListsOfOneArray hands in a Line and Grants that lie side by side, so that to add to the one would spoil the other.
func TestEventListsOfOneArray(t *testing.T) {
	for _, sets := range []int{0, 3} {
		room := []int{8, 2, 5, 1, 7, 9, 9, 9}
		e := impl.Event{Auto: sets > 0, Line: room[:2], Grants: room[2:5], Sets: sets}
		stands, _ := impl.Stand(e, 3)
		there, _ := impl.Stand(e, 5)
		leaves, _, _ := impl.StepBack(e, 8)
		back, _, _ := impl.StepBack(e, 5)
		goes, _ := impl.GoOn(e, 5)
		raised, _, _ := impl.Raise(e)
		if !slices.Equal(room, []int{8, 2, 5, 1, 7, 9, 9, 9}) {
			t.Error("written into", e.Auto, room)
		}
		if !slices.Equal(stands.Line, []int{8, 2, 3}) || !slices.Equal(stands.Grants, []int{5, 1, 7}) || !sameEvent(there, e) {
			t.Error("stand", e, stands, there)
		}
		if !slices.Equal(leaves.Line, []int{2}) || !slices.Equal(leaves.Grants, []int{5, 1, 7}) || !slices.Equal(goes.Line, []int{8, 2}) || !slices.Equal(goes.Grants, []int{1, 7}) {
			t.Error("gone", e, leaves, goes)
		}
		want := [2][]int{{1, 7}, {5, 1, 7, 8, 2}}
		if e.Auto {
			want = [2][]int{{1, 7, 8}, {5, 1, 7, 8}}
		}
		if !slices.Equal(back.Grants, want[0]) || !slices.Equal(raised.Grants, want[1]) {
			t.Error("let go", e, back, raised)
		}
	}
}

// TestEventsKeepNothing spoils what is answered and asks once more.
func TestEventsKeepNothing(t *testing.T) {
	for _, e := range append(eventShapes(), wrongEvents()...) {
		for _, who := range []int{-1, 0, 5, 40} {
			first, told := eventAnswers(e, who)
			var kept []impl.Event
			for _, d := range first {
				kept = append(kept, cloneEvent(d))
			}
			keptTold := [2][]int{slices.Clone(told[0]), slices.Clone(told[1])}
			lists := [][]int{told[0], told[1]}
			for _, d := range first {
				lists = append(lists, d.Line, d.Grants)
			}
			for _, list := range lists {
				spoilWith(list, func(x int) int { return x + 1 })
			}
			second, toldAgain := eventAnswers(e, who)
			for i, d := range second {
				if !sameEvent(d, kept[i]) {
					t.Error("another one the second time", e, who, i, d)
				}
			}
			if !slices.Equal(toldAgain[0], keptTold[0]) || !slices.Equal(toldAgain[1], keptTold[1]) {
				t.Error("others told the second time", e, who, toldAgain)
			}
		}
	}
}

func eventAnswers(e impl.Event, who int) ([]impl.Event, [2][]int) {
	raised, told, _ := impl.Raise(e)
	down, _ := impl.Reset(e)
	stands, _ := impl.Stand(e, who)
	goes, _ := impl.GoOn(e, who)
	back, passed, _ := impl.StepBack(e, who)
	return []impl.Event{raised, down, stands, goes, back}, [2][]int{told, passed}
}

// eventBook follows each client, and of an Auto event each raising, from an empty one on; what it tells is what the event has to answer.
type eventBook interface {
	raise() ([]int, int)
	reset()
	stand(who int) int
	goOn(who int) int
	stepBack(who int) ([]int, int)
	agrees(e impl.Event) bool
	clone() eventBook
}

// autoBook takes each raising for a telling of one, which is with one client, stored (the event is up by it), spilt or taken.
type autoBook struct{ tellings *tellingBook }

func listOf(who int) []int {
	if who < 0 {
		return nil
	}
	return []int{who}
}

func (b autoBook) raise() ([]int, int) {
	if len(b.tellings.waiting) > 0 && len(b.tellings.told) == 32 {
		return nil, impl.Full
	}
	return listOf(b.tellings.tellOne()), impl.Done
}

func (b autoBook) reset() {
	if i := b.tellings.has(isStored); i >= 0 {
		b.tellings.tellings[i] = telling{with: -1, spilt: true}
	}
}

func (b autoBook) stand(who int) int { return b.tellings.await(who) }

func (b autoBook) goOn(who int) int { return b.tellings.resume(who) }

func (b autoBook) stepBack(who int) ([]int, int) {
	passed, code := b.tellings.withdraw(who)
	return listOf(passed), code
}

func (b autoBook) agrees(e impl.Event) bool {
	n := impl.Notify{Permit: e.Up, Line: e.Line, Grants: byOne(e.Grants...), Ones: e.Sets, Spilt: e.Spilt, Taken: e.Taken}
	return e.Auto && b.tellings.agrees(n)
}

func (b autoBook) clone() eventBook { return autoBook{b.tellings.clone()} }

// manualBook knows who waits and who is free to go on, each in its order.
type manualBook struct {
	up      bool
	waiting []int
	free    []int
}

func (b *manualBook) raise() ([]int, int) {
	if len(b.waiting)+len(b.free) > 32 {
		return nil, impl.Full
	}
	list := b.waiting
	b.up, b.waiting, b.free = true, nil, append(slices.Clone(b.free), list...)
	return list, impl.Done
}

func (b *manualBook) reset() { b.up = false }

func (b *manualBook) stand(who int) int {
	switch {
	case slices.Contains(b.waiting, who), slices.Contains(b.free, who):
		return impl.There
	case b.up:
		return impl.Done
	case len(b.waiting) == 32:
		return impl.Full
	}
	b.waiting = append(slices.Clone(b.waiting), who)
	return impl.Waits
}

func (b *manualBook) goOn(who int) int {
	switch {
	case slices.Contains(b.waiting, who):
		return impl.Waits
	case !slices.Contains(b.free, who):
		return impl.None
	}
	b.free = without(b.free, who)
	return impl.Done
}

func (b *manualBook) stepBack(who int) ([]int, int) {
	if !slices.Contains(b.waiting, who) && !slices.Contains(b.free, who) {
		return nil, impl.None
	}
	b.waiting, b.free = without(b.waiting, who), without(b.free, who)
	return nil, impl.Done
}

func (b *manualBook) agrees(e impl.Event) bool {
	return sameEvent(e, manualOne(b.up, b.waiting, b.free))
}

func (b *manualBook) clone() eventBook {
	c := *b
	return &c
}

func newEventBook(auto bool) eventBook {
	if auto {
		return autoBook{&tellingBook{}}
	}
	return &manualBook{}
}

// eventCall is one call of a row: its kind, and the client that calls.
type eventCall struct{ kind, who int }

// doEvent does one call of the program and of the book, holds their answers against each other, and tells the event behind it and the code.
func doEvent(t *testing.T, e impl.Event, b eventBook, x eventCall) (impl.Event, int) {
	t.Helper()
	var d impl.Event
	var list, told []int
	code, want := impl.Done, impl.Done
	switch x.kind {
	case 0:
		d, list, code = impl.Raise(e)
		told, want = b.raise()
	case 1:
		d, code = impl.Reset(e)
		b.reset()
	case 2:
		d, code = impl.Stand(e, x.who)
		want = b.stand(x.who)
	case 3:
		d, code = impl.GoOn(e, x.who)
		want = b.goOn(x.who)
	case 4:
		d, list, code = impl.StepBack(e, x.who)
		told, want = b.stepBack(x.who)
	}
	if code != want || !slices.Equal(list, told) || !b.agrees(d) || !impl.EventOk(d) {
		t.Fatal("event and book", e, x, d, list, code, told, want)
	}
	return d, code
}

// checkGone looks at what a row of calls has let go on: went is how many have gone on, raised how many raisings there were, and which of them an Auto event still has.
func checkGone(t *testing.T, e impl.Event, went int, raised int) {
	t.Helper()
	if !e.Auto {
		return
	}
	ahead := len(e.Grants)
	if e.Up {
		ahead++
	}
	if e.Sets != raised || e.Taken != went || went+ahead != raised-e.Spilt {
		t.Fatal("one for each raising that is not spilt", e, went, raised)
	}
}

// rowState is what a row of calls has come to.
type rowState struct {
	e            impl.Event
	b            eventBook
	went, raised int
}

func (s rowState) do(t *testing.T, x eventCall) rowState {
	t.Helper()
	s.b = s.b.clone()
	var code int
	s.e, code = doEvent(t, s.e, s.b, x)
	if code == impl.Done && x.kind == 0 {
		s.raised++
	}
	if code == impl.Done && (x.kind == 2 || x.kind == 3) {
		s.went++
	}
	checkGone(t, s.e, s.went, s.raised)
	return s
}

// TestEveryShortRowOfAnEvent does all rows of calls by three clients, going on from each event just once.
func TestEveryShortRowOfAnEvent(t *testing.T) {
	calls := []eventCall{{0, 0}, {1, 0}}
	for kind := 2; kind <= 4; kind++ {
		for who := range 3 {
			calls = append(calls, eventCall{kind, who})
		}
	}
	for _, auto := range []bool{false, true} {
		seen := map[string]bool{}
		states := []rowState{{e: impl.Event{Auto: auto}, b: newEventBook(auto)}}
		for range 9 {
			var next []rowState
			for _, s := range states {
				for _, x := range calls {
					d := s.do(t, x)
					if key := fmt.Sprint(d.e); !seen[key] {
						seen[key] = true
						next = append(next, d)
					}
				}
			}
			states = next
		}
		// Of one that is not Auto there are 49 that are down and 16 that are up; an Auto one always counts on.
		if !auto && len(seen) != 65 || auto && len(seen) < 500 {
			t.Error("these rows come to", auto, len(seen))
		}
	}
}

// TestLongRowsOfAnEvent goes on with many clients, by chance, with more of one kind of call or of another, so that Line and Grants come to be full.
func TestLongRowsOfAnEvent(t *testing.T) {
	weights := [][5]int{{1, 1, 1, 1, 1}, {2, 1, 30, 2, 1}, {12, 0, 16, 1, 1}, {10, 1, 10, 1, 8}, {3, 5, 20, 0, 5}, {8, 1, 6, 3, 3}, {1, 6, 30, 1, 1}, {9, 9, 10, 0, 9}}
	for _, auto := range []bool{false, true} {
		fullLine, fullGrants, back := 0, 0, 0
		for seed := range uint64(160) {
			r := rand.New(rand.NewPCG(seed, 11))
			w, clients := weights[seed%8], []int{2, 5, 40, 64}[seed/8%4]
			s := rowState{e: impl.Event{Auto: auto}, b: newEventBook(auto)}
			for range 400 {
				x := eventCall{kind: weighed(r, w), who: r.IntN(clients)}
				if x.kind == 4 && slices.Contains(s.e.Grants, x.who) {
					back++
				}
				s = s.do(t, x)
				if len(s.e.Line) == 32 {
					fullLine++
				}
				if len(s.e.Grants) == 32 && len(s.e.Line) > 0 {
					fullGrants++
				}
			}
		}
		if fullLine < 100 || fullGrants < 100 || back < 1000 {
			t.Error("these rows come to too little", auto, fullLine, fullGrants, back)
		}
	}
}

// TestAnAutoEventLetsOneGoOnForEachRaising has n that stand and k raisings, some of them when nobody stands any more.
func TestAnAutoEventLetsOneGoOnForEachRaising(t *testing.T) {
	for n := range 33 {
		for k := range 36 {
			e := impl.Event{Auto: true}
			for who := range n {
				e, _ = impl.Stand(e, who)
			}
			for range k {
				e, _, _ = impl.Raise(e)
			}
			went := 0
			for who := range n {
				d, code := impl.GoOn(e, who)
				if (code == impl.Done) != (who < k) {
					t.Fatal("who goes on", n, k, who, code)
				}
				if code == impl.Done {
					went++
				}
				e = d
			}
			if went != min(n, k) || e.Up != (k > n) || e.Spilt != max(0, k-n-1) || e.Sets != k || e.Taken != went || !slices.Equal(e.Line, upTo(0, n)[went:]) {
				t.Fatal("as many as raisings", n, k, e)
			}
		}
	}
}

// TestOneThatIsNotAutoLetsAllGoOn: all that wait, and whoever comes while it is up; none that comes when it is down.
func TestOneThatIsNotAutoLetsAllGoOn(t *testing.T) {
	for n := range 33 {
		var e impl.Event
		for who := range n {
			var code int
			if e, code = impl.Stand(e, who); code != impl.Waits {
				t.Fatal("none goes on when it is down", who, code)
			}
		}
		e, list, code := impl.Raise(e)
		if code != impl.Done || !slices.Equal(list, upTo(0, n)) || !e.Up || len(e.Line) != 0 {
			t.Fatal("all", n, e, list, code)
		}
		for who := 40; who < 64; who++ {
			d, code := impl.Stand(e, who)
			if code != impl.Done || !sameEvent(d, e) {
				t.Fatal("at once", n, who, d, code)
			}
		}
		e, _ = impl.Reset(e)
		e, code = impl.Stand(e, 40)
		if code != impl.Waits || !slices.Equal(e.Line, []int{40}) {
			t.Fatal("down again", n, e, code)
		}
		for who := range n {
			if e, code = impl.GoOn(e, who); code != impl.Done {
				t.Fatal("let go ahead of the reset", n, who, code)
			}
		}
		if _, code = impl.GoOn(e, 40); code != impl.Waits || !sameEvent(e, impl.Event{Line: []int{40}}) {
			t.Fatal("it came when it was down", n, e, code)
		}
	}
}

// TestARaisingIsPassedOn goes from one that steps back to the next ones, to Up, and to Spilt.
func TestARaisingIsPassedOn(t *testing.T) {
	e := impl.Event{Auto: true, Line: []int{4, 6, 2}}
	e, list, _ := impl.Raise(e)
	for _, next := range [][2]int{{4, 6}, {6, 2}} {
		if !slices.Equal(list, next[:1]) {
			t.Fatal("told", list, next)
		}
		d, passed, code := impl.StepBack(e, next[0])
		if code != impl.Done || !slices.Equal(passed, next[1:]) || !slices.Equal(d.Grants, passed) || slices.Contains(d.Line, next[1]) || d.Up || d.Sets != 1 {
			t.Fatal("passed on", e, next, d, passed, code)
		}
		e, list = d, passed
	}
	e, _ = impl.Stand(e, 30)
	e, _, _ = impl.Raise(e)
	e, list, code := impl.StepBack(e, 2)
	if code != impl.Done || len(list) != 0 || !sameEvent(e, impl.Event{Auto: true, Up: true, Grants: []int{30}, Sets: 2}) {
		t.Fatal("to Up", e, list, code)
	}
	e, list, code = impl.StepBack(e, 30)
	if code != impl.Done || len(list) != 0 || !sameEvent(e, impl.Event{Auto: true, Up: true, Sets: 2, Spilt: 1}) {
		t.Fatal("to Spilt", e, list, code)
	}
	for who := range 32 {
		full := autoOne(false, upTo(32, 3), upTo(0, 32), 0, 0)
		d, list, code := impl.StepBack(full, who)
		if code != impl.Done || !slices.Equal(list, []int{32}) || !sameEvent(d, autoOne(false, upTo(33, 2), without(upTo(0, 33), who), 0, 0)) {
			t.Fatal("where Grants are full", who, d, list, code)
		}
	}
}
