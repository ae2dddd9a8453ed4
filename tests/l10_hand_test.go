package tests

import (
	"math"
	"slices"
	"testing"

	"loop.example/g00098/impl"
)

// The tests of this file have their answers written out, so that they lean on no second way to work them out.

// sub80 has read from 2 on.
func sub80(cursor int, gotten int, gone int, passed int, f ...impl.Term) impl.Sub {
	return impl.Sub{Id: 80, Start: 2, Cursor: cursor, Got: gotten, Lost: gone, Passed: passed, Filter: f}
}

// four is a ring that keeps the messages 5 to 8, the last ones that were sent, for that Sub.
func four(items []impl.Msg, s impl.Sub) impl.Ring { return keeps(4, 9, items, 81, s) }

func tells(list ...impl.Told) []impl.Told { return list }

// oddOnes lets pass numbers that 2 does not divide, and texts.
func oddOnes() []impl.Term { return allOf(dividedBy(2), bare(8)) }

// pullCase is for the Sub 80 of an open ring: where it is told fewer than n it would wait.
type pullCase struct {
	r     impl.Ring
	n     int
	want  impl.Ring
	tells []impl.Told
}

// checkPulls holds each case against the ring as it is, and against it when it is closed.
func checkPulls(t *testing.T, cases []pullCase) {
	t.Helper()
	for i, x := range cases {
		open, closed := impl.Waits, impl.Over
		if len(x.tells) == x.n {
			open, closed = impl.Done, impl.Done
		}
		if d, list, code := impl.Pull(x.r, 80, x.n); code != open || !slices.Equal(list, x.tells) || !sameRing(d, x.want) {
			t.Error("pull", i, d, list, code)
		}
		if len(x.r.Line) > 0 {
			continue
		}
		if d, list, code := impl.Pull(closedRing(x.r), 80, x.n); code != closed || !slices.Equal(list, x.tells) || !sameRing(d, closedRing(x.want)) {
			t.Error("pull of a closed one", i, d, list, code)
		}
	}
}

// TestPullByHand has as many as there are to be told, one fewer and one more, none and as many as can be asked for; with nothing lost, with one lost, and with nearly all lost.
func TestPullByHand(t *testing.T) {
	kept := four(nums(5, 6, 7, 8), sub80(5, 1, 1, 1))
	all := tells(toldGot(5, 5), toldGot(6, 6), toldGot(7, 7), toldGot(8, 8))
	gone := four(nums(5, 6, 7, 8), sub80(4, 1, 0, 1))
	whole := append(tells(toldLost(1)), all...)
	far := keeps(2, 1000000000, nums(3, 4), 81, sub80(2, 0, 0, 0))
	last := tells(toldLost(999999996), toldGot(3, 999999998), toldGot(4, 999999999))
	checkPulls(t, []pullCase{
		{kept, 0, kept, nil},
		{kept, 1, four(nums(6, 7, 8), sub80(6, 2, 1, 1)), all[:1]},
		{kept, 2, four(nums(7, 8), sub80(7, 3, 1, 1)), all[:2]},
		{kept, 3, four(nums(8), sub80(8, 4, 1, 1)), all[:3]},
		{kept, 4, four(nil, sub80(9, 5, 1, 1)), all},
		{kept, 5, four(nil, sub80(9, 5, 1, 1)), all},
		{kept, 50, four(nil, sub80(9, 5, 1, 1)), all},
		// A loss is a telling of its own.
		{gone, 0, gone, nil},
		{gone, 1, four(nums(5, 6, 7, 8), sub80(5, 1, 1, 1)), whole[:1]},
		{gone, 2, four(nums(6, 7, 8), sub80(6, 2, 1, 1)), whole[:2]},
		{gone, 4, four(nums(8), sub80(8, 4, 1, 1)), whole[:4]},
		{gone, 5, four(nil, sub80(9, 5, 1, 1)), whole},
		{gone, 6, four(nil, sub80(9, 5, 1, 1)), whole},
		{gone, 50, four(nil, sub80(9, 5, 1, 1)), whole},
		{far, 0, far, nil},
		{far, 1, keeps(2, 1000000000, nums(3, 4), 81, sub80(999999998, 0, 999999996, 0)), last[:1]},
		{far, 2, keeps(2, 1000000000, nums(4), 81, sub80(999999999, 1, 999999996, 0)), last[:2]},
		{far, 3, keeps(2, 1000000000, nil, 81, sub80(1000000000, 2, 999999996, 0)), last},
		{far, 4, keeps(2, 1000000000, nil, 81, sub80(1000000000, 2, 999999996, 0)), last},
		// Nothing more is there.
		{four(nil, sub80(9, 5, 1, 1)), 0, four(nil, sub80(9, 5, 1, 1)), nil},
		{four(nil, sub80(9, 5, 1, 1)), 1, four(nil, sub80(9, 5, 1, 1)), nil},
		{four(nil, sub80(9, 5, 1, 1)), 50, four(nil, sub80(9, 5, 1, 1)), nil},
		{keeps(1, 0, nil, 81, impl.Sub{Id: 80}), 1, keeps(1, 0, nil, 81, impl.Sub{Id: 80}), nil},
		{keeps(1, 0, nil, 81, impl.Sub{Id: 80}), 0, keeps(1, 0, nil, 81, impl.Sub{Id: 80}), nil},
	})
}

// TestPullPassesBy has messages that the Filter does not let pass ahead of the first that is told, between two, and behind the last: these stay unread when what was told is as much as was asked for.
func TestPullPassesBy(t *testing.T) {
	odd, nothing := oddOnes(), allOf(bare(1), bare(8))
	ahead := four(nums(6, 7, 8, 9), sub80(5, 1, 1, 1, odd...))
	behind := four(nums(7, 8, 9, 10), sub80(5, 1, 1, 1, odd...))
	between := four(nums(7, 8, 10, 9), sub80(5, 1, 1, 1, odd...))
	evens := four(nums(6, 8, 10, 12), sub80(5, 1, 1, 1, odd...))
	gone := four(nums(6, 8, 11, 12), sub80(3, 1, 0, 0, odd...))
	blind := four(nums(5, 6, 7, 8), sub80(2, 0, 0, 0, nothing...))
	checkPulls(t, []pullCase{
		{ahead, 0, ahead, nil},
		{ahead, 1, four(nums(8, 9), sub80(7, 2, 1, 2, odd...)), tells(toldGot(7, 6))},
		{ahead, 2, four(nil, sub80(9, 3, 1, 3, odd...)), tells(toldGot(7, 6), toldGot(9, 8))},
		{ahead, 3, four(nil, sub80(9, 3, 1, 3, odd...)), tells(toldGot(7, 6), toldGot(9, 8))},
		{behind, 1, four(nums(8, 9, 10), sub80(6, 2, 1, 1, odd...)), tells(toldGot(7, 5))},
		{behind, 2, four(nums(10), sub80(8, 3, 1, 2, odd...)), tells(toldGot(7, 5), toldGot(9, 7))},
		{behind, 3, four(nil, sub80(9, 3, 1, 3, odd...)), tells(toldGot(7, 5), toldGot(9, 7))},
		{behind, 50, four(nil, sub80(9, 3, 1, 3, odd...)), tells(toldGot(7, 5), toldGot(9, 7))},
		{between, 1, four(nums(8, 10, 9), sub80(6, 2, 1, 1, odd...)), tells(toldGot(7, 5))},
		{between, 2, four(nil, sub80(9, 3, 1, 3, odd...)), tells(toldGot(7, 5), toldGot(9, 8))},
		{evens, 0, evens, nil},
		{evens, 1, four(nil, sub80(9, 1, 1, 5, odd...)), nil},
		{evens, 50, four(nil, sub80(9, 1, 1, 5, odd...)), nil},
		{gone, 1, four(nums(6, 8, 11, 12), sub80(5, 1, 2, 0, odd...)), tells(toldLost(2))},
		{gone, 2, four(nums(12), sub80(8, 2, 2, 2, odd...)), tells(toldLost(2), toldGot(11, 7))},
		{gone, 3, four(nil, sub80(9, 2, 2, 3, odd...)), tells(toldLost(2), toldGot(11, 7))},
		// What is lost is told though the Filter lets nothing pass.
		{blind, 1, four(nums(5, 6, 7, 8), sub80(5, 0, 3, 0, nothing...)), tells(toldLost(3))},
		{blind, 2, four(nil, sub80(9, 0, 3, 4, nothing...)), tells(toldLost(3))},
	})
}

// TestPullBesideOthers has Subs that are further behind, further on, in Line and in Grants: all of them stay as they are.
func TestPullBesideOthers(t *testing.T) {
	slow, level, quick := hasGot(1, 2), hasGot(2, 6), hasGot(90, 9)
	with := func(items []impl.Msg, subs ...impl.Sub) impl.Ring { return keeps(4, 9, items, 91, subs...) }
	waits := waitedFor(with(nums(6, 7, 8), level, sub80(7, 3, 1, 1), quick), []int{90}, []int{2})
	checkPulls(t, []pullCase{
		{with(nums(5, 6, 7, 8), slow, sub80(5, 1, 1, 1)), 2, with(nums(5, 6, 7, 8), slow, sub80(7, 3, 1, 1)), tells(toldGot(5, 5), toldGot(6, 6))},
		{with(nums(5, 6, 7, 8), level, sub80(5, 1, 1, 1)), 1, with(nums(6, 7, 8), level, sub80(6, 2, 1, 1)), tells(toldGot(5, 5))},
		{with(nums(5, 6, 7, 8), level, sub80(5, 1, 1, 1)), 2, with(nums(6, 7, 8), level, sub80(7, 3, 1, 1)), tells(toldGot(5, 5), toldGot(6, 6))},
		{with(nums(5, 6, 7, 8), sub80(5, 1, 1, 1), quick), 3, with(nums(8), sub80(8, 4, 1, 1), quick), tells(toldGot(5, 5), toldGot(6, 6), toldGot(7, 7))},
		{waits, 0, waits, nil},
		{waits, 2, waitedFor(with(nums(6, 7, 8), level, sub80(9, 5, 1, 1), quick), []int{90}, []int{2}), tells(toldGot(7, 7), toldGot(8, 8))},
		{waits, 3, waitedFor(with(nums(6, 7, 8), level, sub80(9, 5, 1, 1), quick), []int{90}, []int{2}), tells(toldGot(7, 7), toldGot(8, 8))},
		{waitedFor(with(nil, sub80(9, 5, 1, 1), quick), []int{90}, nil), 1, waitedFor(with(nil, sub80(9, 5, 1, 1), quick), []int{90}, nil), nil},
		{waitedFor(with(nil, sub80(9, 5, 1, 1), quick), nil, []int{90}), 1, waitedFor(with(nil, sub80(9, 5, 1, 1), quick), nil, []int{90}), nil},
	})
}

// TestTheMostThatIsPulled has the longest list that can be told: all of the greatest Cap, and a loss.
func TestTheMostThatIsPulled(t *testing.T) {
	r := keeps(16, 17, nums(1, 2, 3, 4, 5, 6, 7, 8, 9, 10, 11, 12, 13, 14, 15, 16), 1, fresh(0, 0))
	want := tells(toldLost(1))
	for n := 1; n <= 16; n++ {
		want = append(want, toldGot(n, n))
	}
	for n := range 51 {
		d, list, code := impl.Pull(r, 0, n)
		done := impl.Waits
		if n <= 17 {
			done = impl.Done
		}
		if code != done || !slices.Equal(list, want[:min(n, 17)]) || len(d.Items) != 16-max(min(n, 17)-1, 0) || len(d.Line) != 0 {
			t.Error("pull", n, d, list, code)
		}
	}
	if impl.MaxPull != 50 {
		t.Error("constant", impl.MaxPull)
	}
}

// TestPeekByHand has one that is told a message, a loss, and the first that its Filter lets pass; one that would wait; one at a Closed ring's end; one in Line; one in Grants.
func TestPeekByHand(t *testing.T) {
	odd := oddOnes()
	for i, x := range []struct {
		r    impl.Ring
		told impl.Told
		code int
	}{
		{four(nums(5, 6, 7, 8), sub80(5, 1, 1, 1)), toldGot(5, 5), impl.Done},
		{four(nums(8), sub80(8, 4, 1, 1)), toldGot(8, 8), impl.Done},
		{four(nums(5, 6, 7, 8), sub80(4, 1, 0, 1)), toldLost(1), impl.Done},
		{four(nums(5, 6, 7, 8), sub80(2, 0, 0, 0)), toldLost(3), impl.Done},
		{keeps(4, 1000000000, nums(5, 6, 7, 8), 81, sub80(2, 0, 0, 0)), toldLost(999999994), impl.Done},
		{four(nums(6, 8, 11, 12), sub80(5, 1, 1, 1, odd...)), toldGot(11, 7), impl.Done},
		{four(nums(6, 8, 11, 12), sub80(4, 1, 1, 0, odd...)), toldLost(1), impl.Done},
		{four(nums(6, 8, 10, 12), sub80(5, 1, 1, 1, odd...)), impl.Told{}, impl.Waits},
		{four(nil, sub80(9, 5, 1, 1)), impl.Told{}, impl.Waits},
		{closedRing(four(nums(5, 6, 7, 8), sub80(5, 1, 1, 1))), toldGot(5, 5), impl.Done},
		{closedRing(four(nums(5, 6, 7, 8), sub80(4, 1, 0, 1))), toldLost(1), impl.Done},
		{closedRing(four(nums(6, 8, 10, 12), sub80(5, 1, 1, 1, odd...))), impl.Told{}, impl.Over},
		{closedRing(four(nil, sub80(9, 5, 1, 1))), impl.Told{}, impl.Over},
		{waitedFor(four(nil, sub80(9, 5, 1, 1)), []int{80}, nil), impl.Told{}, impl.There},
		{waitedFor(four(nil, sub80(9, 5, 1, 1)), nil, []int{80}), impl.Told{}, impl.There},
		{waitedFor(four(nums(5, 6, 7, 8), sub80(5, 1, 1, 1)), nil, []int{80}), impl.Told{}, impl.There},
		{closedRing(waitedFor(four(nums(5, 6, 7, 8), sub80(4, 1, 0, 1)), nil, []int{80})), impl.Told{}, impl.There},
		{waitedFor(keeps(4, 9, nums(8), 91, sub80(8, 4, 1, 1), hasGot(90, 9)), []int{90}, nil), toldGot(8, 8), impl.Done},
		{waitedFor(keeps(4, 9, nums(8), 91, sub80(8, 4, 1, 1), hasGot(90, 9)), nil, []int{90}), toldGot(8, 8), impl.Done},
		{keeps(4, 9, nil, 81), impl.Told{}, impl.None},
		{keeps(4, 9, nil, 80, hasGot(79, 9)), impl.Told{}, impl.None},
		{four(nums(5, 6, 7), sub80(5, 1, 1, 1)), impl.Told{}, impl.Bad},
		{closedRing(waitedFor(four(nil, sub80(9, 5, 1, 1)), []int{80}, nil)), impl.Told{}, impl.Bad},
	} {
		kept := cloneRing(x.r)
		for range 2 {
			if told, code := impl.Peek(x.r, 80); told != x.told || code != x.code || !sameRing(x.r, kept) {
				t.Error("peek", i, told, code, x.r)
			}
		}
	}
}

// TestLagByHand has a Cursor just at Sent - Cap, one below it, one above it, far below it, at Sent, and at 0 of a ring that has sent fewer than Cap.
func TestLagByHand(t *testing.T) {
	for i, x := range []struct {
		r            impl.Ring
		behind, gone int
	}{
		{four(nums(5, 6, 7, 8), sub80(5, 1, 1, 1)), 4, 0},
		{four(nums(5, 6, 7, 8), sub80(4, 1, 0, 1)), 5, 1},
		{four(nums(6, 7, 8), sub80(6, 2, 1, 1)), 3, 0},
		{four(nums(5, 6, 7, 8), sub80(2, 0, 0, 0)), 7, 3},
		{four(nil, sub80(9, 5, 1, 1)), 0, 0},
		{four(nums(8), sub80(8, 4, 1, 1)), 1, 0},
		{keeps(4, 3, nums(0, 1, 2), 81, impl.Sub{Id: 80}), 3, 0},
		{keeps(4, 4, nums(0, 1, 2, 3), 81, impl.Sub{Id: 80}), 4, 0},
		{keeps(4, 5, nums(1, 2, 3, 4), 81, impl.Sub{Id: 80}), 5, 1},
		{keeps(4, 0, nil, 81, impl.Sub{Id: 80}), 0, 0},
		{keeps(1, 1000000000, nums(5), 81, impl.Sub{Id: 80}), 1000000000, 999999999},
		{keeps(16, 1000000000, nil, 81, impl.Sub{Id: 80, Cursor: 1000000000, Lost: 1000000000}), 0, 0},
		// What is lost is lost, whatever the Filter.
		{four(nums(5, 6, 7, 8), sub80(3, 0, 0, 1, bare(1), bare(8))), 6, 2},
		{keeps(4, 9, nums(5, 6, 7, 8), 91, hasGot(1, 2), sub80(7, 3, 1, 1), hasGot(90, 9)), 2, 0},
		// To be in Line or in Grants is no matter.
		{waitedFor(four(nil, sub80(9, 5, 1, 1)), []int{80}, nil), 0, 0},
		{waitedFor(four(nil, sub80(9, 5, 1, 1)), nil, []int{80}), 0, 0},
		{waitedFor(four(nums(5, 6, 7, 8), sub80(4, 1, 0, 1)), nil, []int{80}), 5, 1},
	} {
		if behind, gone, ok := impl.Lag(x.r, 80); behind != x.behind || gone != x.gone || !ok {
			t.Error("lag", i, behind, gone, ok)
		}
		if len(x.r.Line) > 0 {
			continue
		}
		if behind, gone, ok := impl.Lag(closedRing(x.r), 80); behind != x.behind || gone != x.gone || !ok {
			t.Error("lag at a closed one", i, behind, gone, ok)
		}
	}
	wrong := four(nums(5, 6, 7), sub80(5, 1, 1, 1))
	right := four(nums(5, 6, 7, 8), sub80(5, 1, 1, 1))
	for i, x := range []struct {
		r  impl.Ring
		id int
	}{
		{right, 79}, {right, 81}, {right, -1}, {right, math.MinInt}, {right, math.MaxInt}, {wrong, 80}, {wrong, 79}, {closedRing(wrong), 80}, {impl.Ring{}, 0}, {keeps(4, 9, nil, 81), 80},
	} {
		if behind, gone, ok := impl.Lag(x.r, x.id); behind != 0 || gone != 0 || ok {
			t.Error("no lag", i, behind, gone, ok)
		}
	}
}

// TestSkipToByHand has numbers at the Cursor, at Sent - Cap, at Sent, and beside each of them.
func TestSkipToByHand(t *testing.T) {
	far := four(nums(5, 6, 7, 8), sub80(2, 0, 0, 0))
	mid := four(nums(6, 7, 8), sub80(6, 2, 1, 1, oddOnes()...))
	with := func(items []impl.Msg, s impl.Sub) impl.Ring {
		return waitedFor(keeps(4, 9, items, 91, hasGot(1, 7), s, hasGot(90, 9)), nil, []int{90, 1})
	}
	for i, x := range []struct {
		r      impl.Ring
		number int
		want   impl.Ring
		code   int
	}{
		{far, 1, far, impl.Over}, {far, 0, far, impl.Over}, {far, -1, far, impl.Over}, {far, math.MinInt, far, impl.Over},
		{far, 2, far, impl.Done},
		// All that is skipped is lost already.
		{far, 3, four(nums(5, 6, 7, 8), sub80(3, 0, 1, 0)), impl.Done},
		{far, 4, four(nums(5, 6, 7, 8), sub80(4, 0, 2, 0)), impl.Done},
		{far, 5, four(nums(5, 6, 7, 8), sub80(5, 0, 3, 0)), impl.Done},
		// A part is lost, and the rest is passed by.
		{far, 6, four(nums(6, 7, 8), sub80(6, 0, 3, 1)), impl.Done},
		{far, 7, four(nums(7, 8), sub80(7, 0, 3, 2)), impl.Done},
		{far, 8, four(nums(8), sub80(8, 0, 3, 3)), impl.Done},
		{far, 9, four(nil, sub80(9, 0, 3, 4)), impl.Done},
		{far, 10, far, impl.Over}, {far, 11, far, impl.Over}, {far, math.MaxInt, far, impl.Over},
		// Nothing is lost: all is passed by, whether the Filter lets it pass or not.
		{mid, 5, mid, impl.Over}, {mid, 6, mid, impl.Done}, {mid, 7, four(nums(7, 8), sub80(7, 2, 1, 2, oddOnes()...)), impl.Done}, {mid, 8, four(nums(8), sub80(8, 2, 1, 3, oddOnes()...)), impl.Done}, {mid, 9, four(nil, sub80(9, 2, 1, 4, oddOnes()...)), impl.Done}, {mid, 10, mid, impl.Over},
		{four(nil, sub80(9, 5, 1, 1)), 8, four(nil, sub80(9, 5, 1, 1)), impl.Over}, {four(nil, sub80(9, 5, 1, 1)), 9, four(nil, sub80(9, 5, 1, 1)), impl.Done}, {four(nil, sub80(9, 5, 1, 1)), 10, four(nil, sub80(9, 5, 1, 1)), impl.Over},
		{four(nums(5, 6, 7, 8), sub80(5, 1, 1, 1)), 6, four(nums(6, 7, 8), sub80(6, 1, 1, 2)), impl.Done},
		{four(nums(5, 6, 7, 8), sub80(4, 1, 0, 1)), 5, four(nums(5, 6, 7, 8), sub80(5, 1, 1, 1)), impl.Done}, {four(nums(5, 6, 7, 8), sub80(4, 1, 0, 1)), 6, four(nums(6, 7, 8), sub80(6, 1, 1, 2)), impl.Done},
		// Others hold what it has skipped, or are further on; who was told stays so.
		{with(nums(5, 6, 7, 8), sub80(3, 1, 0, 0)), 6, with(nums(6, 7, 8), sub80(6, 1, 2, 1)), impl.Done}, {with(nums(5, 6, 7, 8), sub80(3, 1, 0, 0)), 7, with(nums(7, 8), sub80(7, 1, 2, 2)), impl.Done}, {with(nums(5, 6, 7, 8), sub80(3, 1, 0, 0)), 8, with(nums(7, 8), sub80(8, 1, 2, 3)), impl.Done}, {with(nums(7, 8), sub80(8, 6, 0, 0)), 9, with(nums(7, 8), sub80(9, 6, 0, 1)), impl.Done},
		// Fewer than Cap were sent: nothing is lost.
		{keeps(4, 3, nums(0, 1, 2), 81, impl.Sub{Id: 80}), 2, keeps(4, 3, nums(2), 81, impl.Sub{Id: 80, Cursor: 2, Passed: 2}), impl.Done}, {keeps(4, 3, nums(0, 1, 2), 81, impl.Sub{Id: 80}), -1, keeps(4, 3, nums(0, 1, 2), 81, impl.Sub{Id: 80}), impl.Over}, {keeps(4, 0, nil, 81, impl.Sub{Id: 80}), 0, keeps(4, 0, nil, 81, impl.Sub{Id: 80}), impl.Done}, {keeps(4, 0, nil, 81, impl.Sub{Id: 80}), 1, keeps(4, 0, nil, 81, impl.Sub{Id: 80}), impl.Over},
		{keeps(1, 1000000000, nums(7), 81, impl.Sub{Id: 80}), 999999998, keeps(1, 1000000000, nums(7), 81, impl.Sub{Id: 80, Cursor: 999999998, Lost: 999999998}), impl.Done}, {keeps(1, 1000000000, nums(7), 81, impl.Sub{Id: 80}), 1000000000, keeps(1, 1000000000, nil, 81, impl.Sub{Id: 80, Cursor: 1000000000, Lost: 999999999, Passed: 1}), impl.Done}, {keeps(1, 1000000000, nums(7), 81, impl.Sub{Id: 80}), 1000000001, keeps(1, 1000000000, nums(7), 81, impl.Sub{Id: 80}), impl.Over},
	} {
		if d, code := impl.SkipTo(x.r, 80, x.number); code != x.code || !sameRing(d, x.want) {
			t.Error("skip", i, d, code)
		}
		if d, code := impl.SkipTo(closedRing(x.r), 80, x.number); code != x.code || !sameRing(d, closedRing(x.want)) {
			t.Error("skip at a closed one", i, d, code)
		}
	}
}

// TestTheFirstReasonOfAReader has several reasons to refuse at once: at rings that are open, closed and wrong, Ids that no Sub has and that are in each list, with numbers that are right and far out of their range.
func TestTheFirstReasonOfAReader(t *testing.T) {
	open := waitedFor(keeps(2, 5, nums(4), 70, hasGot(3, 5), hasGot(64, 5), hasGot(66, 4)), []int{64}, []int{3})
	closed := closedRing(waitedFor(open, nil, []int{3, 64}))
	wrong := waitedFor(keeps(2, 5, nums(4), 60, hasGot(3, 5), hasGot(64, 5), hasGot(66, 4)), []int{64}, []int{3})
	out := []int{math.MinInt, -1, 51, 52, math.MaxInt}
	beyond := []int{math.MinInt, -1, 0, 3, 6, 51, math.MaxInt}
	for i, x := range []struct {
		r    impl.Ring
		id   int
		code int
	}{
		{open, 3, impl.There}, {open, 64, impl.There}, {open, 66, impl.Done}, {open, 0, impl.None}, {open, -1, impl.None}, {open, 65, impl.None}, {open, 70, impl.None}, {open, math.MinInt, impl.None}, {open, math.MaxInt, impl.None},
		{closed, 3, impl.There}, {closed, 64, impl.There}, {closed, 66, impl.Done}, {closed, 4, impl.None}, {closed, 67, impl.None}, {closed, math.MinInt, impl.None}, {closed, math.MaxInt, impl.None},
		{wrong, 3, impl.Bad}, {wrong, 64, impl.Bad}, {wrong, 66, impl.Bad}, {wrong, 0, impl.Bad}, {wrong, math.MaxInt, impl.Bad}, {closedRing(wrong), 3, impl.Bad}, {closedRing(wrong), 66, impl.Bad}, {closedRing(wrong), 1, impl.Bad}, {impl.Ring{}, 0, impl.Bad},
	} {
		if d, list, code := impl.Pull(x.r, x.id, 1); code != x.code || code != impl.Done && (len(list) != 0 || !sameRing(d, x.r)) {
			t.Error("pull", i, d, list, code)
		}
		if d, list, code := impl.Pull(x.r, x.id, 0); code != x.code || len(list) != 0 || !sameRing(d, x.r) {
			t.Error("pull of none", i, d, list, code)
		}
		for _, n := range out {
			if d, list, code := impl.Pull(x.r, x.id, n); code != impl.Bad || len(list) != 0 || !sameRing(d, x.r) {
				t.Error("pull with a wrong number", i, n, d, list, code)
			}
		}
		if told, code := impl.Peek(x.r, x.id); code != x.code || (told == toldGot(4, 4)) != (code == impl.Done) || code != impl.Done && told != (impl.Told{}) {
			t.Error("peek", i, told, code)
		}
		if d, code := impl.SkipTo(x.r, x.id, 5); code != x.code || code != impl.Done && !sameRing(d, x.r) {
			t.Error("skip", i, d, code)
		}
		over := x.code
		if over == impl.Done {
			over = impl.Over
		}
		for _, n := range beyond {
			if d, code := impl.SkipTo(x.r, x.id, n); code != over || !sameRing(d, x.r) {
				t.Error("skip too far", i, n, d, code)
			}
		}
	}
}

// TestBalanceByHand has no Sub, one, as many as there can be, and one more.
func TestBalanceByHand(t *testing.T) {
	many := keeps(3, 1000000000, nil, 12)
	for id := range 12 {
		many.Subs = append(many.Subs, impl.Sub{Id: id, Cursor: 1000000000, Got: 100 + id, Lost: 999999400, Passed: 500 - id})
	}
	all := keeps(3, 1000000000, nil, 12)
	for id := range 12 {
		all.Subs = append(all.Subs, impl.Sub{Id: id, Cursor: 1000000000, Lost: 1000000000})
	}
	over := cloneRing(many)
	over.Next, over.Subs = 13, append(over.Subs, impl.Sub{Id: 12, Cursor: 1000000000, Got: 1000000000})
	two := keeps(4, 9, nums(5, 6, 7, 8), 81, impl.Sub{Id: 4, Start: 1, Cursor: 9, Got: 5, Lost: 1, Passed: 2}, sub80(4, 1, 1, 0))
	wrong := cloneRing(two)
	wrong.Subs[1].Passed = 1
	for i, x := range []struct {
		r                 impl.Ring
		got, gone, passed int
	}{
		{keeps(3, 9, nil, 0), 0, 0, 0}, {keeps(3, 9, nil, 81, sub80(9, 4, 2, 1)), 4, 2, 1}, {keeps(3, 9, nil, 81, sub80(9, 0, 2, 5)), 0, 2, 5}, {keeps(3, 9, nil, 81, sub80(9, 7, 0, 0)), 7, 0, 0}, {keeps(3, 9, nil, 81, fresh(80, 9)), 0, 0, 0},
		{two, 6, 2, 2}, {closedRing(two), 6, 2, 2}, {waitedFor(two, []int{4}, []int{80}), 6, 2, 2}, {many, 1266, 11999992800, 5934}, {all, 0, 12000000000, 0},
		{over, 0, 0, 0}, {wrong, 0, 0, 0}, {closedRing(wrong), 0, 0, 0}, {closedRing(waitedFor(two, []int{4}, nil)), 0, 0, 0}, {impl.Ring{}, 0, 0, 0}, {impl.Ring{Subs: two.Subs, Cap: 17, Sent: 9, Next: 81}, 0, 0, 0},
	} {
		if got, gone, passed := impl.Balance(x.r); got != x.got || gone != x.gone || passed != x.passed {
			t.Error("balance", i, got, gone, passed)
		}
	}
}
