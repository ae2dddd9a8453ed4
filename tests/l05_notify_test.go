package tests

import (
	"math"
	"math/rand/v2"
	"slices"
	"testing"

	"loop.example/g00098/impl"
)

const most = 1000000000

// byOne and byAll are Grants of those clients, told by tellings of one and by a telling of all.
func byOne(whos ...int) []impl.Grant { return grantsOf(true, whos) }

func byAll(whos ...int) []impl.Grant { return grantsOf(false, whos) }

func grantsOf(one bool, whos []int) []impl.Grant {
	var list []impl.Grant
	for _, who := range whos {
		list = append(list, impl.Grant{Who: who, One: one})
	}
	return list
}

// mixed are Grants of those clients, each third one of them by a telling of all.
func mixed(whos []int) []impl.Grant {
	var list []impl.Grant
	for i, who := range whos {
		list = append(list, impl.Grant{Who: who, One: i%3 != 2})
	}
	return list
}

func heldBy(n impl.Notify) int {
	held := n.Taken + n.Spilt
	for _, g := range n.Grants {
		if g.One {
			held++
		}
	}
	if n.Permit {
		held++
	}
	return held
}

// notify has as many Ones as its balance asks for.
func notify(permit bool, line []int, grants []impl.Grant, spilt int, taken int) impl.Notify {
	n := impl.Notify{Permit: permit, Line: line, Grants: grants, Spilt: spilt, Taken: taken}
	n.Ones = heldBy(n)
	return n
}

func cloneNotify(n impl.Notify) impl.Notify {
	n.Line, n.Grants = slices.Clone(n.Line), slices.Clone(n.Grants)
	return n
}

func sameNotify(a impl.Notify, b impl.Notify) bool {
	return a.Permit == b.Permit && slices.Equal(a.Line, b.Line) && slices.Equal(a.Grants, b.Grants) && a.Ones == b.Ones && a.Spilt == b.Spilt && a.Taken == b.Taken
}

func notifyIsRight(n impl.Notify) bool {
	if !lineIsRight(n.Line) || len(n.Grants) > 32 || n.Permit && len(n.Line) > 0 {
		return false
	}
	for i, g := range n.Grants {
		if g.Who < 0 || g.Who > 63 || slices.Contains(n.Line, g.Who) || placeOfGrant(n.Grants[:i], g.Who) >= 0 {
			return false
		}
	}
	for _, count := range []int{n.Ones, n.Spilt, n.Taken} {
		if count < 0 || count > most {
			return false
		}
	}
	return n.Ones == heldBy(n)
}

func placeOfGrant(grants []impl.Grant, who int) int {
	return slices.IndexFunc(grants, func(g impl.Grant) bool { return g.Who == who })
}

// notifyShapes are right ones with few counted: Line and Grants with none, one, some and as many as there can be.
func notifyShapes() []impl.Notify {
	list := []impl.Notify{
		{}, {Line: []int{}, Grants: []impl.Grant{}}, notify(true, nil, nil, 0, 0), notify(true, nil, nil, 3, 0), notify(false, nil, nil, 2, 5),
		notify(false, []int{0}, nil, 0, 0), notify(false, []int{63}, byOne(0), 0, 0), notify(false, nil, byOne(63), 0, 0), notify(true, nil, byOne(0), 0, 1),
		notify(true, nil, byAll(0), 0, 0), notify(true, nil, byAll(7, 0, 63), 1, 1), notify(false, []int{5, 2}, mixed([]int{9, 1, 7, 0}), 1, 2),
	}
	for _, n := range []int{0, 1, 2, 5, 31, 32} {
		for _, k := range []int{0, 1, 2, 5, 31, 32} {
			whos, line := upTo(0, n), upTo(32, k)
			slices.Reverse(line)
			list = append(list, notify(false, line, mixed(whos), 1, 0), notify(false, line, byOne(whos...), 0, 4), notify(false, line, byAll(whos...), 2, 2))
			if k == 0 {
				list = append(list, notify(true, nil, mixed(whos), 0, 3), notify(true, nil, byOne(whos...), 0, 0), notify(true, nil, byAll(whos...), 5, 0))
			}
		}
	}
	return append(list, notify(false, upTo(10, 1), byOne(upTo(30, 31)...), 0, 0), notify(false, upTo(10, 2), byOne(upTo(30, 31)...), 0, 0), notify(false, upTo(0, 31), byAll(60), 0, 0), notify(false, upTo(0, 31), mixed([]int{60, 50}), 0, 0))
}

// heavyNotifies are right ones whose counts stand at their bounds or beside them.
func heavyNotifies() []impl.Notify {
	var list []impl.Notify
	for _, n := range notifyShapes() {
		held := heldBy(n) - n.Taken - n.Spilt
		for _, left := range []int{0, 1, 2} {
			room := most - held - left
			for _, spilt := range []int{0, 1, room / 2, room - 1, room} {
				list = append(list, notify(n.Permit, n.Line, n.Grants, spilt, room-spilt))
			}
		}
		list = append(list, notify(n.Permit, n.Line, n.Grants, 0, most-held), notify(n.Permit, n.Line, n.Grants, most-held, 0))
	}
	return list
}

func rightNotifies() []impl.Notify { return append(notifyShapes(), heavyNotifies()...) }

// wrongNotifies are not NotifyOk, each for a reason of its own, some for several.
func wrongNotifies() []impl.Notify {
	var list []impl.Notify
	for _, line := range wrongLines() {
		list = append(list, notify(false, line, nil, 0, 0), notify(true, line, nil, 0, 0), notify(false, line, byOne(50, 3), 1, 1), notify(false, nil, byOne(line...), 0, 0), notify(true, nil, byAll(line...), 0, 0), notify(false, []int{40, 41}, mixed(line), 0, 2))
	}
	for _, n := range []int{33, 34, 64, 1000} {
		list = append(list, notify(false, nil, byAll(upTo(0, n)...), 0, 0), notify(false, nil, byOne(upTo(0, n)...), 0, 0), notify(true, nil, mixed(upTo(0, n)), 0, 0), notify(false, []int{63}, mixed(upTo(0, n)), 0, 0))
	}
	list = append(list,
		notify(false, []int{4}, byOne(4), 0, 0), notify(false, []int{4}, byAll(4), 0, 0), notify(false, []int{1, 2, 3}, byAll(9, 3), 0, 0), notify(false, []int{3, 2, 1}, byOne(3, 9), 0, 0), notify(false, upTo(0, 32), byOne(31), 0, 0), notify(false, upTo(0, 32), byAll(upTo(31, 32)...), 0, 0),
		notify(false, nil, append(byOne(4), byAll(4)...), 0, 0), notify(false, nil, append(byAll(4, 5), byOne(4)...), 0, 0), notify(false, nil, append(byOne(4), byOne(5, 4)...), 0, 0), notify(false, nil, append(byOne(upTo(0, 31)...), byAll(0)...), 0, 0),
		notify(true, []int{0}, nil, 0, 0), notify(true, []int{63}, byOne(1), 0, 0), notify(true, upTo(0, 32), nil, 0, 0), notify(true, upTo(0, 32), byAll(upTo(32, 32)...), 1, 1),
	)
	for _, n := range notifyShapes() {
		for _, ones := range []int{n.Ones - 1, n.Ones + 1, n.Ones + 2, n.Ones + 1<<32, -n.Ones - 1, most, most + 1, -1, math.MaxInt, math.MinInt} {
			list = append(list, impl.Notify{Permit: n.Permit, Line: n.Line, Grants: n.Grants, Ones: ones, Spilt: n.Spilt, Taken: n.Taken})
		}
	}
	return append(list, wrongCounts()...)
}

// wrongCounts have a count out of its bounds, most of them with a balance that holds, or one that holds only as numbers go round.
func wrongCounts() []impl.Notify {
	var list []impl.Notify
	for _, n := range notifyShapes()[:12] {
		rest := heldBy(n) - n.Spilt - n.Taken
		for _, bad := range []int{-1, -2, -most, most + 1, most + 2, 1 << 32, -1 << 32, math.MaxInt, math.MinInt} {
			for _, good := range []int{0, 1, most - 1, most} {
				list = append(list, notify(n.Permit, n.Line, n.Grants, bad, good), notify(n.Permit, n.Line, n.Grants, good, bad), notify(n.Permit, n.Line, n.Grants, bad, -bad), notify(n.Permit, n.Line, n.Grants, bad, good-bad))
			}
		}
		// Each count is in its bounds but Ones, or all but Ones are and it is one less than it would have to be.
		list = append(list, notify(n.Permit, n.Line, n.Grants, most, 1), notify(n.Permit, n.Line, n.Grants, 1, most), notify(n.Permit, n.Line, n.Grants, most, most), notify(n.Permit, n.Line, n.Grants, most-rest+1, 0), notify(n.Permit, n.Line, n.Grants, 0, most-rest+1))
		for _, taken := range []int{most - rest, most - rest + 1} {
			list = append(list, impl.Notify{Permit: n.Permit, Line: n.Line, Grants: n.Grants, Ones: most, Spilt: 1, Taken: taken}, impl.Notify{Permit: n.Permit, Line: n.Line, Grants: n.Grants, Ones: most - 1, Taken: taken})
		}
	}
	return list
}

// whosFor are clients and others at their edges, some that stand in Line, and some that were told.
func whosFor(n impl.Notify) []int {
	var told []int
	for _, g := range n.Grants {
		told = append(told, g.Who)
	}
	return whosAround(n.Line, told)
}

func whosAround(line []int, told []int) []int {
	list := []int{math.MinInt, -1, 0, 1, 31, 32, impl.MaxWho - 1, impl.MaxWho, 256, 1 << 32, math.MaxInt}
	for _, of := range [][]int{line, told} {
		for _, i := range []int{0, 1, 2, len(of) / 2, len(of) - 2, len(of) - 1} {
			if 0 <= i && i < len(of) {
				list = append(list, of[i])
			}
		}
	}
	slices.Sort(list)
	return slices.Compact(list)
}

var grantFiller = impl.Grant{Who: filler, One: true}

func otherGrant(g impl.Grant) impl.Grant { return impl.Grant{Who: g.Who + 1000003, One: !g.One} }

func roomyNotify(n impl.Notify) impl.Notify {
	n.Line, n.Grants = roomy(n.Line), roomyWith(n.Grants, grantFiller)
	return n
}

// checkNotifyApart looks at the argument, and at the lists that were answered.
func checkNotifyApart(t *testing.T, what string, given impl.Notify, n impl.Notify, answer impl.Notify, told []int) {
	t.Helper()
	checkApart(t, what, given.Line, n.Line, answer.Line, told)
	checkApartWith(t, what, given.Grants, n.Grants, grantFiller, otherGrant, answer.Grants)
}

func checkNotifyOk(t *testing.T, n impl.Notify) {
	t.Helper()
	given := roomyNotify(n)
	if ok := impl.NotifyOk(given); ok != notifyIsRight(n) {
		t.Errorf("NotifyOk(%v) = %v", n, ok)
	}
	checkNotifyApart(t, "NotifyOk", given, n, impl.Notify{}, nil)
}

// firstIsTold moves the first one of Line; the caller knows that there is one.
func firstIsTold(n *impl.Notify) int {
	who := n.Line[0]
	n.Line = n.Line[1:]
	n.Grants = append(n.Grants, impl.Grant{Who: who, One: true})
	return who
}

func checkTellOne(t *testing.T, n impl.Notify) {
	t.Helper()
	want, who, code := cloneNotify(n), -1, impl.Done
	switch {
	case !notifyIsRight(n):
		code = impl.Bad
	case n.Ones == most, len(n.Line) > 0 && len(n.Grants) == 32:
		code = impl.Full
	case len(n.Line) > 0:
		want.Ones++
		who = firstIsTold(&want)
	case n.Permit:
		want.Ones++
		want.Spilt++
	default:
		want.Ones++
		want.Permit = true
	}
	given := roomyNotify(n)
	d, w, c := impl.TellOne(given)
	if !sameNotify(d, want) || w != who || c != code {
		t.Errorf("TellOne(%v) = %v, %d, %d; want %v, %d, %d", n, d, w, c, want, who, code)
	}
	checkNotifyApart(t, "TellOne", given, n, d, nil)
}

func checkTellAll(t *testing.T, n impl.Notify) {
	t.Helper()
	want, told, code := cloneNotify(n), []int(nil), impl.Done
	switch {
	case !notifyIsRight(n):
		code = impl.Bad
	case len(n.Line)+len(n.Grants) > 32:
		code = impl.Full
	default:
		told = n.Line
		want.Line = nil
		want.Grants = append(want.Grants, byAll(told...)...)
	}
	given := roomyNotify(n)
	d, list, c := impl.TellAll(given)
	if !sameNotify(d, want) || !slices.Equal(list, told) || c != code {
		t.Errorf("TellAll(%v) = %v, %v, %d; want %v, %v, %d", n, d, list, c, want, told, code)
	}
	checkNotifyApart(t, "TellAll", given, n, d, list)
}

func checkAwait(t *testing.T, n impl.Notify, who int) {
	t.Helper()
	want, code := cloneNotify(n), impl.Done
	switch {
	case !notifyIsRight(n), who < 0, who > 63:
		code = impl.Bad
	case slices.Contains(n.Line, who), placeOfGrant(n.Grants, who) >= 0:
		code = impl.There
	case n.Taken == most, !n.Permit && len(n.Line) == 32:
		code = impl.Full
	case n.Permit:
		want.Permit = false
		want.Taken++
	default:
		want.Line = append(want.Line, who)
		code = impl.Waits
	}
	given := roomyNotify(n)
	d, c := impl.Await(given, who)
	if !sameNotify(d, want) || c != code {
		t.Errorf("Await(%v, %d) = %v, %d; want %v, %d", n, who, d, c, want, code)
	}
	checkNotifyApart(t, "Await", given, n, d, nil)
}

func checkResume(t *testing.T, n impl.Notify, who int) {
	t.Helper()
	want, code, place := cloneNotify(n), impl.Done, placeOfGrant(n.Grants, who)
	switch {
	case !notifyIsRight(n):
		code = impl.Bad
	case slices.Contains(n.Line, who):
		code = impl.Waits
	case place < 0:
		code = impl.None
	case n.Grants[place].One && n.Taken == most:
		code = impl.Full
	default:
		want.Grants = slices.Delete(want.Grants, place, place+1)
		if n.Grants[place].One {
			want.Taken++
		}
	}
	given := roomyNotify(n)
	d, c := impl.Resume(given, who)
	if !sameNotify(d, want) || c != code {
		t.Errorf("Resume(%v, %d) = %v, %d; want %v, %d", n, who, d, c, want, code)
	}
	checkNotifyApart(t, "Resume", given, n, d, nil)
}

// withdrawn is what a right n, whose Line or Grants who is in, is to be, and who is told.
func withdrawn(n impl.Notify, who int) (impl.Notify, int) {
	want := cloneNotify(n)
	if at := slices.Index(n.Line, who); at >= 0 {
		want.Line = slices.Delete(want.Line, at, at+1)
		return want, -1
	}
	place := placeOfGrant(n.Grants, who)
	want.Grants = slices.Delete(want.Grants, place, place+1)
	switch {
	case !n.Grants[place].One:
	case len(n.Line) > 0:
		return want, firstIsTold(&want)
	case n.Permit:
		want.Spilt++
	default:
		want.Permit = true
	}
	return want, -1
}

func checkWithdraw(t *testing.T, n impl.Notify, who int) {
	t.Helper()
	want, passed, code := cloneNotify(n), -1, impl.Done
	switch {
	case !notifyIsRight(n):
		code = impl.Bad
	case !slices.Contains(n.Line, who) && placeOfGrant(n.Grants, who) < 0:
		code = impl.None
	default:
		want, passed = withdrawn(n, who)
	}
	given := roomyNotify(n)
	d, w, c := impl.Withdraw(given, who)
	if !sameNotify(d, want) || w != passed || c != code {
		t.Errorf("Withdraw(%v, %d) = %v, %d, %d; want %v, %d, %d", n, who, d, w, c, want, passed, code)
	}
	checkNotifyApart(t, "Withdraw", given, n, d, nil)
}

// checkNotify asks every function of the chapter at n.
func checkNotify(t *testing.T, n impl.Notify, whos []int) {
	t.Helper()
	checkNotifyOk(t, n)
	checkTellOne(t, n)
	checkTellAll(t, n)
	for _, who := range whos {
		checkAwait(t, n, who)
		checkResume(t, n, who)
		checkWithdraw(t, n, who)
	}
}

func TestNotifyLimits(t *testing.T) {
	if impl.MaxCount != most {
		t.Error("constant", impl.MaxCount)
	}
	for _, n := range rightNotifies() {
		if !impl.NotifyOk(n) {
			t.Error("not right", n)
		}
	}
	for _, n := range wrongNotifies() {
		if impl.NotifyOk(n) {
			t.Error("right", n)
		}
	}
}

func TestNotifiesAtTheirEdges(t *testing.T) {
	for _, n := range append(rightNotifies(), wrongNotifies()...) {
		checkNotify(t, n, whosFor(n))
	}
}

// TestEveryCountAtItsEdges has each of the three counts at each of its edges, whatever the others are.
func TestEveryCountAtItsEdges(t *testing.T) {
	edges := []int{-1, 0, 1, most - 1, most, most + 1}
	for _, shape := range []impl.Notify{{}, {Permit: true}, {Line: []int{3}}, {Grants: byOne(3)}, {Grants: byAll(3)}, {Permit: true, Grants: byOne(3)}, {Permit: true, Grants: byAll(3)}, {Line: []int{4}, Grants: byOne(3)}, {Line: []int{4}, Grants: byAll(3)}} {
		for _, ones := range edges {
			for _, spilt := range edges {
				for _, taken := range edges {
					n := shape
					n.Ones, n.Spilt, n.Taken = ones, spilt, taken
					checkNotify(t, n, []int{-1, 0, 3, 4, 63, 64})
				}
			}
		}
	}
}

// eachList hands over all lists of at most n of those.
func eachList[T any](of []T, n int, visit func(list []T)) {
	var each func(list []T)
	each = func(list []T) {
		visit(list)
		if len(list) == n {
			return
		}
		for _, x := range of {
			each(append(slices.Clone(list), x))
		}
	}
	each(nil)
}

// TestEveryFewWaiters goes through all of up to two in Line and up to two told, right ones and wrong ones.
func TestEveryFewWaiters(t *testing.T) {
	eachList([]int{0, 1, 63, 64}, 2, func(line []int) {
		eachList(append(byOne(0, 1, 64), byAll(0, 63, -1)...), 2, func(grants []impl.Grant) {
			for i := range 12 {
				n := notify(i%2 == 0, line, grants, i/2%2, 0)
				n.Ones += i/4 - 1
				checkNotify(t, n, []int{-1, 0, 1, 63, 64})
			}
		})
	})
}

// TestEveryRightFewWaiters goes through more of them, all right: each order in Line and in Grants, each told by each kind of telling.
func TestEveryRightFewWaiters(t *testing.T) {
	whos := upTo(5, 4)
	eachList(whos, 4, func(line []int) {
		if !lineIsRight(line) {
			return
		}
		eachList(append(byOne(whos...), byAll(whos...)...), 4-len(line), func(grants []impl.Grant) {
			for _, permit := range []bool{false, true} {
				if n := notify(permit, line, grants, 1, 2); notifyIsRight(n) {
					checkNotify(t, n, upTo(4, 6))
				}
			}
		})
	})
}

// TestTheReasonNamedFirst has several reasons to refuse, and the answer written out.
func TestTheReasonNamedFirst(t *testing.T) {
	full := upTo(0, 32)
	told := upTo(32, 32)
	for i, x := range []struct {
		n    impl.Notify
		who  int
		code int
	}{
		{notify(false, full, byOne(told...), 0, most-32), 64, impl.Bad},
		{notify(false, full, byOne(told...), 0, most-32), -1, impl.Bad},
		{notify(false, full, nil, 0, most), 63, impl.Full},
		{notify(false, full, nil, 0, most), 31, impl.There},
		{notify(false, full, byAll(told...), 0, most), 63, impl.There},
		{notify(false, full, byAll(told...), 0, 0), 32, impl.There},
		{notify(false, full, nil, 0, 0), 32, impl.Full},
		{notify(false, full, byAll(40), 0, most), 64, impl.Bad},
		{notify(false, full[:31], nil, 0, 0), 32, impl.Waits},
		{notify(false, nil, byAll(told...), 0, 0), 0, impl.Waits},
		{notify(false, nil, nil, 0, most), 0, impl.Full},
		{notify(false, nil, byAll(0), 0, most), 0, impl.There},
		{notify(false, nil, nil, 0, most-1), 0, impl.Waits},
		{notify(true, nil, nil, 0, most-1), 0, impl.Done},
		{notify(true, nil, nil, 0, most), 0, impl.Bad},
		{notify(true, full, nil, 0, 0), 63, impl.Bad},
		{notify(true, full, nil, 0, 0), 31, impl.Bad},
		{notify(true, nil, byAll(told...), most-1, 0), 0, impl.Done},
	} {
		if d, code := impl.Await(x.n, x.who); code != x.code || code != impl.Done && code != impl.Waits && !sameNotify(d, x.n) {
			t.Error("await", i, x.who, code)
		}
	}
	for i, x := range []struct {
		n    impl.Notify
		code int
	}{
		{notify(false, nil, nil, 0, most), impl.Full}, {notify(true, nil, nil, most-1, 0), impl.Full}, {notify(true, nil, nil, most-2, 0), impl.Done}, {notify(false, nil, nil, most-1, 0), impl.Done},
		{notify(false, []int{1}, nil, most, 0), impl.Full}, {notify(false, []int{1}, nil, most-1, 0), impl.Done}, {notify(true, nil, nil, most, 0), impl.Bad}, {notify(false, nil, nil, most, 1), impl.Bad},
		{notify(false, []int{1}, byOne(told...), 0, 0), impl.Full}, {notify(false, []int{1}, byAll(told...), 0, 0), impl.Full}, {notify(false, nil, byOne(told...), 0, 0), impl.Done}, {notify(true, nil, byAll(told...), 0, 0), impl.Done},
		{notify(false, []int{1}, byOne(told[1:]...), 0, 0), impl.Done}, {notify(false, []int{1}, byOne(upTo(31, 33)...), 0, 0), impl.Bad}, {notify(true, []int{1}, byOne(told...), 0, 0), impl.Bad},
	} {
		if d, who, code := impl.TellOne(x.n); code != x.code || code != impl.Done && (who != -1 || !sameNotify(d, x.n)) {
			t.Error("tell one", i, who, code)
		}
	}
}

func TestTellAllWhereItIsFull(t *testing.T) {
	for k := range 33 {
		n := notify(false, upTo(0, k), mixed(upTo(32, 32-k)), 0, 0)
		d, list, code := impl.TellAll(n)
		if code != impl.Done || !slices.Equal(list, upTo(0, k)) || len(d.Line) != 0 || !slices.Equal(d.Grants, append(mixed(upTo(32, 32-k)), byAll(upTo(0, k)...)...)) || d.Ones != n.Ones {
			t.Error("just as many as there can be", k, d, list, code)
		}
		if k == 0 {
			continue
		}
		n = notify(false, upTo(0, k), mixed(upTo(31, 33-k)), 0, 0)
		if k == 32 {
			n = notify(false, upTo(0, k), byOne(63), 0, 0)
		}
		if d, list, code := impl.TellAll(n); code != impl.Full || len(list) != 0 || !sameNotify(d, n) {
			t.Error("one more", k, d, list, code)
		}
	}
	for _, n := range []impl.Notify{notify(true, nil, nil, 0, most-1), notify(false, nil, byOne(1), most-1, 0)} {
		if d, list, code := impl.TellAll(n); code != impl.Done || len(list) != 0 || !sameNotify(d, n) {
			t.Error("nobody waits", n, d, list, code)
		}
	}
}

// TestCountsThatCannotBe has Resume and Withdraw where Taken or Spilt is at its greatest and would have to be one more: no balance holds there.
func TestCountsThatCannotBe(t *testing.T) {
	for _, ones := range []int{most, most + 1, most + 2} {
		for _, n := range []impl.Notify{
			{Grants: byOne(3), Ones: ones, Taken: most}, {Grants: byOne(3), Line: []int{4}, Ones: ones, Taken: most},
			{Permit: true, Grants: byOne(3), Ones: ones, Spilt: most}, {Grants: byOne(3), Ones: ones, Spilt: most}, {Grants: byOne(3), Line: []int{4}, Ones: ones, Spilt: most}, {Permit: true, Grants: byAll(3), Ones: ones, Spilt: most},
		} {
			for _, who := range []int{3, 4, 5} {
				if d, code := impl.Resume(n, who); code != impl.Bad || !sameNotify(d, n) {
					t.Error("resume", n, who, d, code)
				}
				if d, passed, code := impl.Withdraw(n, who); code != impl.Bad || passed != -1 || !sameNotify(d, n) {
					t.Error("withdraw", n, who, d, passed, code)
				}
			}
		}
	}
	n := notify(false, nil, byAll(3, 5), 0, most)
	if d, code := impl.Resume(n, 3); code != impl.Done || !sameNotify(d, notify(false, nil, byAll(5), 0, most)) {
		t.Error("told with all", d, code)
	}
	n = notify(false, nil, byOne(3), 0, most-1)
	if d, code := impl.Resume(n, 3); code != impl.Done || !sameNotify(d, notify(false, nil, nil, 0, most)) {
		t.Error("the last one that can be taken", d, code)
	}
	n = notify(false, []int{4}, byAll(3), most, 0)
	for _, who := range []int{3, 4} {
		if d, passed, code := impl.Withdraw(n, who); code != impl.Done || passed != -1 || d.Permit || d.Spilt != most || len(d.Line)+len(d.Grants) != 1 {
			t.Error("nothing to pass on", who, d, passed, code)
		}
	}
	n = notify(true, nil, byOne(3), most-2, 0)
	if d, passed, code := impl.Withdraw(n, 3); code != impl.Done || passed != -1 || !sameNotify(d, notify(true, nil, nil, most-1, 0)) {
		t.Error("the last one that can be spilt", d, passed, code)
	}
}

// TestNotifyByHand has its answers written out, so that it leans on no second way to work them out.
func TestNotifyByHand(t *testing.T) {
	n := impl.Notify{Line: []int{8, 2}, Grants: []impl.Grant{{Who: 5, One: true}, {Who: 1}, {Who: 7, One: true}}, Ones: 9, Spilt: 3, Taken: 4}
	for _, x := range []struct {
		who    int
		want   impl.Notify
		passed int
		code   int
	}{
		{8, impl.Notify{Line: []int{2}, Grants: n.Grants, Ones: 9, Spilt: 3, Taken: 4}, -1, impl.Done},
		{2, impl.Notify{Line: []int{8}, Grants: n.Grants, Ones: 9, Spilt: 3, Taken: 4}, -1, impl.Done},
		{1, impl.Notify{Line: []int{8, 2}, Grants: []impl.Grant{{Who: 5, One: true}, {Who: 7, One: true}}, Ones: 9, Spilt: 3, Taken: 4}, -1, impl.Done},
		{5, impl.Notify{Line: []int{2}, Grants: []impl.Grant{{Who: 1}, {Who: 7, One: true}, {Who: 8, One: true}}, Ones: 9, Spilt: 3, Taken: 4}, 8, impl.Done},
		{7, impl.Notify{Line: []int{2}, Grants: []impl.Grant{{Who: 5, One: true}, {Who: 1}, {Who: 8, One: true}}, Ones: 9, Spilt: 3, Taken: 4}, 8, impl.Done},
		{0, n, -1, impl.None}, {-1, n, -1, impl.None}, {64, n, -1, impl.None},
	} {
		if d, passed, code := impl.Withdraw(n, x.who); code != x.code || passed != x.passed || !sameNotify(d, x.want) {
			t.Error("withdraw", x.who, d, passed, code)
		}
	}
	for _, x := range []struct {
		who  int
		want impl.Notify
		code int
	}{
		{8, n, impl.Waits}, {2, n, impl.Waits}, {0, n, impl.None}, {-1, n, impl.None}, {64, n, impl.None},
		{5, impl.Notify{Line: []int{8, 2}, Grants: []impl.Grant{{Who: 1}, {Who: 7, One: true}}, Ones: 9, Spilt: 3, Taken: 5}, impl.Done},
		{1, impl.Notify{Line: []int{8, 2}, Grants: []impl.Grant{{Who: 5, One: true}, {Who: 7, One: true}}, Ones: 9, Spilt: 3, Taken: 4}, impl.Done},
		{7, impl.Notify{Line: []int{8, 2}, Grants: []impl.Grant{{Who: 5, One: true}, {Who: 1}}, Ones: 9, Spilt: 3, Taken: 5}, impl.Done},
	} {
		if d, code := impl.Resume(n, x.who); code != x.code || !sameNotify(d, x.want) {
			t.Error("resume", x.who, d, code)
		}
	}
	for _, x := range []struct {
		who, code int
	}{{8, impl.There}, {2, impl.There}, {5, impl.There}, {1, impl.There}, {-1, impl.Bad}, {64, impl.Bad}} {
		if d, code := impl.Await(n, x.who); code != x.code || !sameNotify(d, n) {
			t.Error("await", x.who, d, code)
		}
	}
	for _, who := range []int{0, 3, 63} {
		want := cloneNotify(n)
		want.Line = []int{8, 2, who}
		if d, code := impl.Await(n, who); code != impl.Waits || !sameNotify(d, want) {
			t.Error("await", who, d, code)
		}
	}
	one := impl.Notify{Line: []int{2}, Grants: []impl.Grant{{Who: 5, One: true}, {Who: 1}, {Who: 7, One: true}, {Who: 8, One: true}}, Ones: 10, Spilt: 3, Taken: 4}
	if d, who, code := impl.TellOne(n); code != impl.Done || who != 8 || !sameNotify(d, one) {
		t.Error("tell one", d, who, code)
	}
	all := impl.Notify{Grants: []impl.Grant{{Who: 5, One: true}, {Who: 1}, {Who: 7, One: true}, {Who: 8}, {Who: 2}}, Ones: 9, Spilt: 3, Taken: 4}
	if d, list, code := impl.TellAll(n); code != impl.Done || !slices.Equal(list, []int{8, 2}) || !sameNotify(d, all) {
		t.Error("tell all", d, list, code)
	}
}

// TestTellingsNobodyWaitsFor come to one permit, and the others are spilt.
func TestTellingsNobodyWaitsFor(t *testing.T) {
	var n impl.Notify
	for i := 1; i <= 5; i++ {
		d, who, code := impl.TellOne(n)
		if code != impl.Done || who != -1 || !sameNotify(d, impl.Notify{Permit: true, Ones: i, Spilt: i - 1}) {
			t.Fatal("telling", i, d, who, code)
		}
		n = d
	}
	n, code := impl.Await(n, 9)
	if code != impl.Done || !sameNotify(n, impl.Notify{Ones: 5, Spilt: 4, Taken: 1}) {
		t.Fatal("the permit", n, code)
	}
	n, code = impl.Await(n, 9)
	if code != impl.Waits || !sameNotify(n, impl.Notify{Line: []int{9}, Ones: 5, Spilt: 4, Taken: 1}) {
		t.Fatal("there was but one", n, code)
	}
	n, list, code := impl.TellAll(impl.Notify{Ones: 5, Spilt: 4, Taken: 1})
	if code != impl.Done || len(list) != 0 || !sameNotify(n, impl.Notify{Ones: 5, Spilt: 4, Taken: 1}) {
		t.Error("a telling of all is not stored", n, list, code)
	}
}

// TestATellingIsPassedOnTwice goes from one that withdraws to the next ones, to the permit, and to Spilt.
func TestATellingIsPassedOnTwice(t *testing.T) {
	n := impl.Notify{Line: []int{4, 6, 2}}
	n, who, _ := impl.TellOne(n)
	for _, next := range [][2]int{{4, 6}, {6, 2}} {
		if who != next[0] {
			t.Fatal("told", who, next)
		}
		d, passed, code := impl.Withdraw(n, who)
		if code != impl.Done || passed != next[1] || !slices.Equal(d.Grants, byOne(passed)) || slices.Contains(d.Line, passed) || d.Permit {
			t.Fatal("passed on", n, who, d, passed, code)
		}
		n, who = d, passed
	}
	n, _ = impl.Await(n, 30)
	n, _, _ = impl.TellOne(n)
	n, passed, code := impl.Withdraw(n, 2)
	if code != impl.Done || passed != -1 || !sameNotify(n, impl.Notify{Permit: true, Grants: byOne(30), Ones: 2}) {
		t.Fatal("to the permit", n, passed, code)
	}
	n, passed, code = impl.Withdraw(n, 30)
	if code != impl.Done || passed != -1 || !sameNotify(n, impl.Notify{Permit: true, Ones: 2, Spilt: 1}) {
		t.Fatal("to Spilt", n, passed, code)
	}
}

// TestPassedOnWhereGrantsAreFull has no other place for who is told next than the one of who withdraws.
func TestPassedOnWhereGrantsAreFull(t *testing.T) {
	for _, k := range []int{1, 2, 32} {
		n := notify(false, upTo(32, k), byOne(upTo(0, 32)...), 0, 0)
		for who := range 32 {
			d, passed, code := impl.Withdraw(n, who)
			want := notify(false, upTo(33, k-1), slices.Delete(byOne(upTo(0, 33)...), who, who+1), 0, 0)
			if code != impl.Done || passed != 32 || !sameNotify(d, want) || !impl.NotifyOk(d) {
				t.Error("passed on", k, who, d, passed, code)
			}
		}
	}
}

// telling is one telling of one, and where it is: with a client that was told, stored, spilt or taken.
type telling struct {
	with   int
	stored bool
	spilt  bool
	taken  bool
}

// tellingBook follows each telling of one, and each client, from an empty Notify on.
type tellingBook struct {
	tellings []telling
	waiting  []int
	told     []int // as they were told, by one or with all
}

func (b *tellingBook) has(at func(x telling) bool) int {
	return slices.IndexFunc(b.tellings, at)
}

func isStored(x telling) bool { return x.stored }

// place finds where a telling of one goes, and tells the client that it is with then, or -1.
func (b *tellingBook) place(i int) int {
	switch {
	case len(b.waiting) > 0:
		who := b.waiting[0]
		b.waiting = slices.Clone(b.waiting[1:])
		b.told = append(slices.Clone(b.told), who)
		b.tellings[i] = telling{with: who}
		return who
	case b.has(isStored) >= 0:
		b.tellings[i] = telling{with: -1, spilt: true}
	default:
		b.tellings[i] = telling{with: -1, stored: true}
	}
	return -1
}

func (b *tellingBook) tellOne() int {
	b.tellings = append(b.tellings, telling{})
	return b.place(len(b.tellings) - 1)
}

func (b *tellingBook) tellAll() []int {
	list := b.waiting
	b.told = append(slices.Clone(b.told), list...)
	b.waiting = nil
	return list
}

func (b *tellingBook) await(who int) int {
	if slices.Contains(b.waiting, who) || slices.Contains(b.told, who) {
		return impl.There
	}
	if i := b.has(isStored); i >= 0 {
		b.tellings[i] = telling{with: -1, taken: true}
		return impl.Done
	}
	if len(b.waiting) == impl.MaxLine {
		return impl.Full
	}
	b.waiting = append(slices.Clone(b.waiting), who)
	return impl.Waits
}

// tellingOf is the number of the telling that is with who, or -1.
func (b *tellingBook) tellingOf(who int) int {
	return b.has(func(x telling) bool { return x.with == who })
}

func without(list []int, who int) []int {
	return slices.DeleteFunc(slices.Clone(list), func(x int) bool { return x == who })
}

func (b *tellingBook) resume(who int) int {
	if slices.Contains(b.waiting, who) {
		return impl.Waits
	}
	if !slices.Contains(b.told, who) {
		return impl.None
	}
	b.told = without(b.told, who)
	if i := b.tellingOf(who); i >= 0 {
		b.tellings[i] = telling{with: -1, taken: true}
	}
	return impl.Done
}

func (b *tellingBook) withdraw(who int) (int, int) {
	if !slices.Contains(b.waiting, who) && !slices.Contains(b.told, who) {
		return -1, impl.None
	}
	b.waiting, b.told = without(b.waiting, who), without(b.told, who)
	if i := b.tellingOf(who); i >= 0 {
		return b.place(i), impl.Done
	}
	return -1, impl.Done
}

// agrees asks whether n is what the book says, each telling of one in just one place.
func (b *tellingBook) agrees(n impl.Notify) bool {
	stored, spilt, taken := 0, 0, 0
	for _, x := range b.tellings {
		switch {
		case x.stored:
			stored++
		case x.spilt:
			spilt++
		case x.taken:
			taken++
		}
	}
	var grants []impl.Grant
	for _, who := range b.told {
		grants = append(grants, impl.Grant{Who: who, One: b.tellingOf(who) >= 0})
	}
	return sameNotify(n, impl.Notify{Permit: stored == 1, Line: b.waiting, Grants: grants, Ones: len(b.tellings), Spilt: spilt, Taken: taken}) && stored <= 1
}

func (b tellingBook) clone() *tellingBook {
	b.tellings = slices.Clone(b.tellings)
	return &b
}

// notifyCall is one call of a row: its kind, and the client that calls.
type notifyCall struct{ kind, who int }

// doNotify does one call of the program and of the book, holds their answers against each other, and tells the Notify behind it.
func doNotify(t *testing.T, n impl.Notify, b *tellingBook, x notifyCall) impl.Notify {
	t.Helper()
	var d impl.Notify
	ok := true
	switch x.kind {
	case 0:
		var who, code int
		d, who, code = impl.TellOne(n)
		if len(n.Line) > 0 && len(n.Grants) == impl.MaxLine {
			ok = who == -1 && code == impl.Full
		} else {
			ok = who == b.tellOne() && code == impl.Done
		}
	case 1:
		var list []int
		var code int
		d, list, code = impl.TellAll(n)
		if len(n.Line)+len(n.Grants) > impl.MaxLine {
			ok = len(list) == 0 && code == impl.Full
		} else {
			ok = slices.Equal(list, b.tellAll()) && code == impl.Done
		}
	case 2:
		var code int
		d, code = impl.Await(n, x.who)
		ok = code == b.await(x.who)
	case 3:
		var code int
		d, code = impl.Resume(n, x.who)
		ok = code == b.resume(x.who)
	case 4:
		var who, code int
		d, who, code = impl.Withdraw(n, x.who)
		passed, want := b.withdraw(x.who)
		ok = who == passed && code == want
	}
	if !ok || !b.agrees(d) {
		t.Fatal("notify and book", n, x, d, *b)
	}
	checkBalance(t, d)
	return d
}

// checkBalance is what must be so behind every call.
func checkBalance(t *testing.T, n impl.Notify) {
	t.Helper()
	if !impl.NotifyOk(n) {
		t.Fatal("not right", n)
	}
	if n.Ones != heldBy(n) {
		t.Fatal("balance", n)
	}
	if n.Permit && len(n.Line) > 0 {
		t.Fatal("a permit is stored while one waits", n)
	}
}

// TestEveryShortRow does all rows of up to five calls by three clients.
func TestEveryShortRow(t *testing.T) {
	calls := []notifyCall{{0, 0}, {1, 0}}
	for kind := 2; kind <= 4; kind++ {
		for who := range 3 {
			calls = append(calls, notifyCall{kind, who})
		}
	}
	var each func(n impl.Notify, b *tellingBook, left int)
	each = func(n impl.Notify, b *tellingBook, left int) {
		if left == 0 {
			return
		}
		for _, x := range calls {
			c := b.clone()
			each(doNotify(t, n, c, x), c, left-1)
		}
	}
	each(impl.Notify{}, &tellingBook{}, 5)
}

// TestLongRows goes on with many clients, by chance, with more of one kind of call or of another, so that Line and Grants come to be full.
func TestLongRows(t *testing.T) {
	weights := [][5]int{{1, 1, 1, 1, 1}, {2, 1, 30, 2, 1}, {12, 0, 16, 1, 1}, {10, 1, 10, 1, 8}, {5, 5, 20, 0, 5}, {8, 0, 6, 3, 3}, {0, 1, 12, 2, 2}, {9, 0, 10, 0, 9}}
	fullLine, fullGrants, passed := 0, 0, 0
	for seed := range uint64(160) {
		r := rand.New(rand.NewPCG(seed, 7))
		w := weights[seed%uint64(len(weights))]
		clients := []int{2, 5, 40, 64}[seed/8%4]
		var n impl.Notify
		b := &tellingBook{}
		for range 400 {
			x := notifyCall{kind: weighed(r, w), who: r.IntN(clients)}
			if x.kind == 4 && b.tellingOf(x.who) >= 0 {
				passed++
			}
			n = doNotify(t, n, b, x)
			if len(n.Line) == impl.MaxLine {
				fullLine++
			}
			if len(n.Grants) == impl.MaxLine && len(n.Line) > 0 {
				fullGrants++
			}
		}
	}
	if fullLine < 100 || fullGrants < 100 || passed < 1000 {
		t.Error("these rows come to too little", fullLine, fullGrants, passed)
	}
}

func weighed(r *rand.Rand, weights [5]int) int {
	sum := 0
	for _, w := range weights {
		sum += w
	}
	left := r.IntN(sum)
	for kind, w := range weights {
		if left < w {
			return kind
		}
		left -= w
	}
	return 0
}

// TestNotifiesKeepNothing spoils what is answered and asks once more.
func TestNotifiesKeepNothing(t *testing.T) {
	for _, n := range append(notifyShapes(), wrongNotifies()...) {
		for _, who := range []int{-1, 0, 5, 40} {
			first, told := notifyAnswers(n, who)
			var kept []impl.Notify
			for _, d := range first {
				kept = append(kept, cloneNotify(d))
			}
			keptTold := slices.Clone(told)
			for _, d := range first {
				spoilWith(d.Line, func(x int) int { return x + 1 })
				spoilWith(d.Grants, otherGrant)
			}
			spoilWith(told, func(x int) int { return x + 1 })
			second, toldAgain := notifyAnswers(n, who)
			for i, d := range second {
				if !sameNotify(d, kept[i]) {
					t.Error("another one the second time", n, who, i, d)
				}
			}
			if !slices.Equal(toldAgain, keptTold) {
				t.Error("others told the second time", n, who, toldAgain)
			}
		}
	}
}

func notifyAnswers(n impl.Notify, who int) ([]impl.Notify, []int) {
	one, _, _ := impl.TellOne(n)
	all, told, _ := impl.TellAll(n)
	waits, _ := impl.Await(n, who)
	goes, _ := impl.Resume(n, who)
	leaves, _, _ := impl.Withdraw(n, who)
	return []impl.Notify{one, all, waits, goes, leaves}, told
}
