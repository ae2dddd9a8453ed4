package tests

import (
	"math"
	"slices"
	"testing"

	"loop.example/g00098/impl"
)

// The tests of this file have their answers written out, so that they lean on no second way to work them out.

func nums(list ...int) []impl.Msg {
	var msgs []impl.Msg
	for _, n := range list {
		msgs = append(msgs, num(n))
	}
	return msgs
}

// hasGot is a Sub that has got all from 0 up to its Cursor.
func hasGot(id int, cursor int, f ...impl.Term) impl.Sub {
	return impl.Sub{Id: id, Cursor: cursor, Got: cursor, Filter: f}
}

func fresh(id int, start int, f ...impl.Term) impl.Sub {
	return impl.Sub{Id: id, Start: start, Cursor: start, Filter: f}
}

func keeps(room int, sent int, items []impl.Msg, next int, subs ...impl.Sub) impl.Ring {
	return impl.Ring{Cap: room, Sent: sent, Items: items, Next: next, Subs: subs}
}

func toldGot(n int, number int) impl.Told { return impl.Told{Kind: 1, Msg: num(n), Index: number} }

func toldLost(n int) impl.Told { return impl.Told{Kind: 2, N: n} }

func TestRingLimitsByHand(t *testing.T) {
	limit := impl.Sub{Id: 999999999, Start: 0, Cursor: 1000000000, Got: 1, Lost: 999999998, Passed: 1}
	for i, r := range []impl.Ring{
		keeps(1, 0, nil, 0), keeps(16, 0, nil, 0), keeps(1, 1000000000, nil, 0), keeps(1, 0, nil, 1000000000), keeps(16, 1000000000, nil, 1000000000, limit), keeps(3, 5, nil, 2), keeps(3, 5, nil, 2, fresh(0, 5)), keeps(3, 5, nil, 2, fresh(1, 5)),
		keeps(3, 5, nums(1, 2, 3), 2, fresh(0, 2)), keeps(3, 5, nums(1, 2, 3), 2, fresh(0, 1)), keeps(3, 5, nums(1, 2, 3), 2, fresh(0, 0)), keeps(3, 5, nums(2, 3), 2, fresh(0, 3)), keeps(3, 5, nums(3), 2, fresh(0, 5), fresh(1, 4)), keeps(3, 2, nums(2, 3), 2, fresh(0, 0)), keeps(2, 2, nums(2, 3), 2, fresh(0, 0)), keeps(1, 2, nums(3), 2, fresh(0, 0)),
		keeps(3, 5, nil, 2, hasGot(0, 5)), keeps(3, 5, nil, 2, impl.Sub{Id: 1, Start: 1, Cursor: 5, Got: 1, Lost: 1, Passed: 2}), keeps(3, 5, nil, 2, impl.Sub{Start: 1, Cursor: 5, Lost: 4}), keeps(3, 5, nil, 2, impl.Sub{Start: 1, Cursor: 5, Passed: 4}), keeps(3, 5, nums(3), 2, impl.Sub{Start: 3, Cursor: 4, Passed: 1, Filter: allOf(bare(1))}),
		{Cap: 3, Sent: 5, Next: 3, Subs: []impl.Sub{fresh(0, 5), fresh(2, 5)}, Line: []int{2, 0}}, {Cap: 3, Sent: 5, Next: 3, Subs: []impl.Sub{fresh(0, 5), fresh(2, 5)}, Line: []int{2}, Grants: []int{0}}, {Cap: 3, Sent: 5, Next: 3, Subs: []impl.Sub{fresh(0, 5), fresh(2, 5)}, Grants: []int{2, 0}, Closed: true},
	} {
		if !impl.RingOk(r) {
			t.Error("not right", i, r)
		}
	}
	two := []impl.Sub{fresh(0, 5), fresh(2, 4)}
	for i, r := range []impl.Ring{
		keeps(0, 0, nil, 0), keeps(17, 0, nil, 0), keeps(-1, 0, nil, 0), keeps(1, -1, nil, 0), keeps(1, 1000000001, nil, 0), keeps(1, 0, nil, -1), keeps(1, 0, nil, 1000000001), keeps(0, 3, nil, 1, hasGot(0, 3)), keeps(17, 3, nil, 1, hasGot(0, 3)), keeps(3, 1000000001, nil, 1, fresh(0, 1000000001)),
		keeps(3, 5, nums(1), 2), keeps(3, 5, nums(1), 2, fresh(0, 5)), keeps(3, 5, nums(1, 2, 3, 4), 2, fresh(0, 1)), keeps(3, 5, nums(1, 2), 2, fresh(0, 1)), keeps(3, 5, nums(1, 2, 3), 2, fresh(0, 3)), keeps(3, 5, nums(1), 2, fresh(0, 3)), keeps(3, 2, nums(1), 2, fresh(0, 0)), keeps(3, 2, nums(1, 2, 3), 2, fresh(0, 0)), keeps(3, 5, []impl.Msg{num(1), {}}, 2, fresh(0, 3)), keeps(3, 5, nums(1000000000, 1), 2, fresh(0, 3)),
		keeps(3, 5, nil, 2, fresh(-1, 5)), keeps(3, 5, nil, 2, fresh(2, 5)), keeps(3, 5, nil, 0, fresh(0, 5)), keeps(3, 5, nil, 3, fresh(1, 5), fresh(1, 5)), keeps(3, 5, nil, 3, fresh(1, 5), fresh(0, 5)), keeps(3, 5, nil, 1000000000, fresh(1000000000, 5)),
		keeps(3, 5, nil, 2, fresh(0, 6)), keeps(3, 5, nums(1, 2, 3), 2, fresh(0, -1)), keeps(3, 5, nil, 2, impl.Sub{Start: -1, Cursor: 5, Got: 6}), keeps(3, 5, nil, 2, impl.Sub{Start: 6, Cursor: 5}), keeps(3, 5, nil, 2, impl.Sub{Start: 6, Cursor: 5, Got: -1}), keeps(3, 5, nil, 2, impl.Sub{Start: 5, Cursor: 6, Got: 1}),
		keeps(3, 5, nil, 2, impl.Sub{Start: 1, Cursor: 5, Got: 1, Lost: 1, Passed: 1}), keeps(3, 5, nil, 2, impl.Sub{Start: 1, Cursor: 5, Got: 1, Lost: 2, Passed: 2}), keeps(3, 5, nil, 2, impl.Sub{Start: 1, Cursor: 5, Got: -1, Lost: 3, Passed: 2}), keeps(3, 5, nil, 2, impl.Sub{Start: 1, Cursor: 5, Got: 3, Lost: -1, Passed: 2}), keeps(3, 5, nil, 2, impl.Sub{Start: 1, Cursor: 5, Got: 3, Lost: 2, Passed: -1}), keeps(3, 5, nil, 2, fresh(0, 5, bare(8))), keeps(3, 5, nil, 2, fresh(0, 5), fresh(1, 5, bare(1), bare(1))),
		{Cap: 3, Sent: 5, Items: nums(1), Next: 3, Subs: two, Line: []int{1}}, {Cap: 3, Sent: 5, Items: nums(1), Next: 3, Subs: two, Grants: []int{1}}, {Cap: 3, Sent: 5, Items: nums(1), Next: 3, Subs: two, Line: []int{2}}, {Cap: 3, Sent: 5, Items: nums(1), Next: 3, Subs: two, Line: []int{0, 0}}, {Cap: 3, Sent: 5, Items: nums(1), Next: 3, Subs: two, Grants: []int{2, 2}}, {Cap: 3, Sent: 5, Items: nums(1), Next: 3, Subs: two, Line: []int{0}, Grants: []int{0}}, {Cap: 3, Sent: 5, Items: nums(1), Next: 3, Subs: two, Line: []int{0}, Closed: true}, {Cap: 3, Sent: 5, Items: nums(1), Next: 3, Subs: two, Line: []int{-1}}, {Cap: 3, Sent: 5, Items: nums(1), Next: 3, Subs: two, Grants: []int{3}},
	} {
		if impl.RingOk(r) {
			t.Error("right", i, r)
		}
	}
}

// TestHowManySubs has each number of Subs up to one more than there can be.
func TestHowManySubs(t *testing.T) {
	for n := range 15 {
		r := keeps(4, 0, nil, n)
		for id := range n {
			r.Subs = append(r.Subs, fresh(id, 0))
		}
		if impl.RingOk(r) != (n <= 12) {
			t.Error("right or not", n)
		}
		d, id, code := impl.Subscribe(r, nil, false)
		switch {
		case n < 12 && (code != impl.Done || id != n || len(d.Subs) != n+1 || d.Next != n+1):
			t.Error("one more", n, d, id, code)
		case n == 12 && (code != impl.Full || id != -1 || !sameRing(d, r)):
			t.Error("as many as there can be", d, id, code)
		case n > 12 && (code != impl.Bad || id != -1 || !sameRing(d, r)):
			t.Error("too many", n, d, id, code)
		}
	}
}

// TestTheOldest has it by each of its three reasons, and where two of them are the same: what a new Sub that goes back starts with.
func TestTheOldest(t *testing.T) {
	for i, x := range []struct {
		r      impl.Ring
		oldest int
	}{
		{keeps(3, 0, nil, 0), 0}, {keeps(3, 2, nil, 0), 2}, {keeps(3, 9, nil, 0), 9}, {keeps(16, 1000000000, nil, 0), 1000000000}, {keeps(3, 9, nil, 1, fresh(0, 9)), 9}, {keeps(3, 9, nums(8), 1, fresh(0, 8)), 8}, {keeps(3, 9, nums(7, 8), 1, fresh(0, 7)), 7},
		{keeps(3, 9, nums(6, 7, 8), 1, fresh(0, 6)), 6}, {keeps(3, 9, nums(6, 7, 8), 1, fresh(0, 5)), 6}, {keeps(3, 9, nums(6, 7, 8), 1, fresh(0, 0)), 6}, {keeps(9, 9, nums(0, 1, 2, 3, 4, 5, 6, 7, 8), 1, fresh(0, 0)), 0}, {keeps(8, 9, nums(1, 2, 3, 4, 5, 6, 7, 8), 1, fresh(0, 0)), 1}, {keeps(10, 9, nums(0, 1, 2, 3, 4, 5, 6, 7, 8), 1, fresh(0, 0)), 0},
		{keeps(16, 2, nums(0, 1), 1, fresh(0, 0)), 0}, {keeps(16, 2, nums(1), 1, fresh(0, 1)), 1}, {keeps(3, 3, nums(0, 1, 2), 1, fresh(0, 0)), 0}, {keeps(3, 3, nums(1, 2), 1, fresh(0, 1)), 1}, {keeps(3, 0, nil, 1, fresh(0, 0)), 0}, {keeps(3, 9, nums(7, 8), 3, fresh(0, 9), fresh(1, 7), fresh(2, 8)), 7}, {keeps(3, 9, nums(6, 7, 8), 3, fresh(0, 2), fresh(1, 7), fresh(2, 8)), 6},
	} {
		if !impl.RingOk(x.r) {
			t.Fatal("not right", i, x.r)
		}
		d, id, code := impl.Subscribe(x.r, nil, true)
		if s := d.Subs[len(d.Subs)-1]; code != impl.Done || id != x.r.Next || !sameSub(s, impl.Sub{Id: id, Start: x.oldest, Cursor: x.oldest}) || !slices.Equal(d.Items, x.r.Items) || !impl.RingOk(d) {
			t.Error("back", i, d, id, code)
		}
		d, id, code = impl.Subscribe(x.r, allOf(bare(2)), false)
		if s := d.Subs[len(d.Subs)-1]; code != impl.Done || id != x.r.Next || !sameSub(s, fresh(id, x.r.Sent, bare(2))) || !slices.Equal(d.Items, x.r.Items) || !impl.RingOk(d) {
			t.Error("not back", i, d, id, code)
		}
	}
}

// TestSendByHand has rings where all, some and none of Line want the message.
func TestSendByHand(t *testing.T) {
	subs := func(first int, second int, third int) []impl.Sub {
		list := []impl.Sub{fresh(1, 5, bare(2)), fresh(2, 5, bare(3)), fresh(4, 5)}
		for i, cursor := range []int{first, second, third} {
			list[i].Cursor, list[i].Passed = cursor, cursor-5
		}
		return list
	}
	waits := waitedFor(keeps(2, 5, nil, 7, subs(5, 5, 5)...), []int{4, 2, 1}, nil)
	some := waitedFor(keeps(2, 5, nil, 7, subs(5, 5, 5)...), []int{2, 1}, []int{4})
	one := waitedFor(keeps(2, 5, nil, 7, subs(5, 5, 5)...), []int{1}, nil)
	alone := waitedFor(keeps(2, 5, nil, 7, fresh(1, 5, bare(2)), fresh(2, 5, bare(2), bare(8))), []int{2, 1}, nil)
	for i, x := range []struct {
		r    impl.Ring
		m    impl.Msg
		want impl.Ring
		told []int
	}{
		{waits, num(9), waitedFor(keeps(2, 6, nums(9), 7, subs(5, 6, 5)...), []int{2}, []int{4, 1}), []int{4, 1}},
		{waits, text("a"), waitedFor(keeps(2, 6, []impl.Msg{text("a")}, 7, subs(6, 5, 5)...), []int{1}, []int{4, 2}), []int{4, 2}},
		{some, num(9), waitedFor(keeps(2, 6, nums(9), 7, subs(5, 6, 5)...), []int{2}, []int{4, 1}), []int{1}},
		{one, text("a"), waitedFor(keeps(2, 6, []impl.Msg{text("a")}, 7, subs(6, 5, 5)...), []int{1}, nil), nil},
		{one, num(9), waitedFor(keeps(2, 6, nums(9), 7, subs(5, 5, 5)...), nil, []int{1}), []int{1}},
		{alone, num(9), waitedFor(keeps(2, 6, nums(9), 7, fresh(1, 5, bare(2)), impl.Sub{Id: 2, Start: 5, Cursor: 6, Passed: 1, Filter: allOf(bare(2), bare(8))}), []int{2}, []int{1}), []int{1}},
		// Who is in neither list neither moves nor is told, though it wants the message.
		{keeps(2, 5, nil, 7, fresh(3, 5)), num(9), keeps(2, 6, nums(9), 7, fresh(3, 5)), nil},
		{waitedFor(keeps(2, 5, nil, 7, fresh(3, 5, bare(3))), nil, []int{3}), num(9), waitedFor(keeps(2, 6, nums(9), 7, fresh(3, 5, bare(3))), nil, []int{3}), nil},
		// Nobody wants it, and all that are behind Sent wait: nothing is kept.
		{waitedFor(keeps(2, 5, nil, 7, fresh(3, 5, bare(3))), []int{3}, nil), num(9), waitedFor(keeps(2, 6, nil, 7, impl.Sub{Id: 3, Start: 5, Cursor: 6, Passed: 1, Filter: allOf(bare(3))}), []int{3}, nil), nil},
		{keeps(2, 5, nil, 7), num(9), keeps(2, 6, nil, 7), nil},
		{keeps(2, 5, nums(3, 4), 7, fresh(3, 3)), num(9), keeps(2, 6, nums(4, 9), 7, fresh(3, 3)), nil},
		{keeps(2, 5, nums(4), 7, fresh(3, 4)), num(9), keeps(2, 6, nums(4, 9), 7, fresh(3, 4)), nil},
		{keeps(1, 5, nums(4), 7, fresh(3, 4)), num(9), keeps(1, 6, nums(9), 7, fresh(3, 4)), nil},
		{keeps(1, 0, nil, 7, fresh(3, 0)), num(9), keeps(1, 1, nums(9), 7, fresh(3, 0)), nil},
		{keeps(16, 16, nums(0, 1, 2, 3, 4, 5, 6, 7, 8, 9, 10, 11, 12, 13, 14, 15), 1, fresh(0, 0)), num(99), keeps(16, 17, nums(1, 2, 3, 4, 5, 6, 7, 8, 9, 10, 11, 12, 13, 14, 15, 99), 1, fresh(0, 0)), nil},
		{keeps(1, 999999999, nil, 1000000000), num(9), keeps(1, 1000000000, nil, 1000000000), nil},
	} {
		if d, told, code := impl.Send(x.r, x.m); code != impl.Done || !slices.Equal(told, x.told) || !sameRing(d, x.want) {
			t.Error("send", i, d, told, code)
		}
	}
}

// TestUnsubscribeByHand has the slowest, one in Line, one in Grants, the last one, and one that holds nothing back.
func TestUnsubscribeByHand(t *testing.T) {
	r := waitedFor(keeps(4, 9, nums(5, 6, 7, 8), 70, hasGot(1, 3), hasGot(2, 7), hasGot(65, 9), hasGot(66, 9), hasGot(69, 6)), []int{66, 65}, []int{2, 1})
	for i, x := range []struct {
		id   int
		want impl.Ring
	}{
		{1, waitedFor(keeps(4, 9, nums(6, 7, 8), 70, hasGot(2, 7), hasGot(65, 9), hasGot(66, 9), hasGot(69, 6)), []int{66, 65}, []int{2})},
		{2, waitedFor(keeps(4, 9, nums(5, 6, 7, 8), 70, hasGot(1, 3), hasGot(65, 9), hasGot(66, 9), hasGot(69, 6)), []int{66, 65}, []int{1})},
		{65, waitedFor(keeps(4, 9, nums(5, 6, 7, 8), 70, hasGot(1, 3), hasGot(2, 7), hasGot(66, 9), hasGot(69, 6)), []int{66}, []int{2, 1})},
		{66, waitedFor(keeps(4, 9, nums(5, 6, 7, 8), 70, hasGot(1, 3), hasGot(2, 7), hasGot(65, 9), hasGot(69, 6)), []int{65}, []int{2, 1})},
		{69, waitedFor(keeps(4, 9, nums(5, 6, 7, 8), 70, hasGot(1, 3), hasGot(2, 7), hasGot(65, 9), hasGot(66, 9)), []int{66, 65}, []int{2, 1})},
	} {
		if d, code := impl.Unsubscribe(r, x.id); code != impl.Done || !sameRing(d, x.want) {
			t.Error("unsubscribe", i, d, code)
		}
	}
	for _, closed := range []bool{false, true} {
		one := keeps(4, 9, nums(7, 8), 70, hasGot(1, 7))
		one.Closed = closed
		if d, code := impl.Unsubscribe(one, 1); code != impl.Done || !sameRing(d, impl.Ring{Cap: 4, Sent: 9, Next: 70, Closed: closed}) {
			t.Error("the last one", d, code)
		}
	}
}

// TestReceiveByHand has a Cursor just at Sent - Cap, one below it, and far below it; some passed by ahead of the first that is let pass; and all of them.
func TestReceiveByHand(t *testing.T) {
	odd := allOf(dividedBy(2), bare(8))
	nothing := allOf(bare(1), bare(8))
	sub := func(cursor int, gotten int, gone int, passed int, f []impl.Term) impl.Sub {
		return impl.Sub{Id: 80, Start: 2, Cursor: cursor, Got: gotten, Lost: gone, Passed: passed, Filter: f}
	}
	for i, x := range []struct {
		r    impl.Ring
		want impl.Ring
		x    impl.Told
		code int
	}{
		{keeps(3, 9, nums(6, 7, 8), 81, sub(6, 2, 1, 1, nil)), keeps(3, 9, nums(7, 8), 81, sub(7, 3, 1, 1, nil)), toldGot(6, 6), impl.Done},
		{keeps(3, 9, nums(6, 7, 8), 81, sub(5, 1, 1, 1, nil)), keeps(3, 9, nums(6, 7, 8), 81, sub(6, 1, 2, 1, nil)), toldLost(1), impl.Done},
		{keeps(3, 9, nums(6, 7, 8), 81, sub(2, 0, 0, 0, nil)), keeps(3, 9, nums(6, 7, 8), 81, sub(6, 0, 4, 0, nil)), toldLost(4), impl.Done},
		{keeps(3, 1000000000, nums(6, 7, 8), 81, sub(2, 0, 0, 0, nothing)), keeps(3, 1000000000, nums(6, 7, 8), 81, sub(999999997, 0, 999999995, 0, nothing)), toldLost(999999995), impl.Done},
		{keeps(3, 9, nums(6, 7, 8), 81, sub(6, 2, 1, 1, odd)), keeps(3, 9, nums(8), 81, sub(8, 3, 1, 2, odd)), toldGot(7, 7), impl.Done},
		{keeps(3, 9, nums(6, 8, 9), 81, sub(6, 2, 1, 1, odd)), keeps(3, 9, nil, 81, sub(9, 3, 1, 3, odd)), toldGot(9, 8), impl.Done},
		{keeps(3, 9, nums(7, 8, 9), 81, sub(6, 2, 1, 1, odd)), keeps(3, 9, nums(8, 9), 81, sub(7, 3, 1, 1, odd)), toldGot(7, 6), impl.Done},
		{keeps(3, 9, nums(6, 8, 0), 81, sub(6, 2, 1, 1, odd)), waitedFor(keeps(3, 9, nil, 81, sub(9, 2, 1, 4, odd)), []int{80}, nil), impl.Told{}, impl.Waits},
		{closedRing(keeps(3, 9, nums(6, 8, 0), 81, sub(6, 2, 1, 1, odd))), closedRing(keeps(3, 9, nil, 81, sub(9, 2, 1, 4, odd))), impl.Told{}, impl.Over},
		{keeps(3, 9, nil, 81, sub(9, 7, 0, 0, nil)), waitedFor(keeps(3, 9, nil, 81, sub(9, 7, 0, 0, nil)), []int{80}, nil), impl.Told{}, impl.Waits},
		{closedRing(keeps(3, 9, nil, 81, sub(9, 7, 0, 0, nil))), closedRing(keeps(3, 9, nil, 81, sub(9, 7, 0, 0, nil))), impl.Told{}, impl.Over},
		{closedRing(keeps(3, 9, nums(6, 7, 8), 81, sub(5, 1, 1, 1, nil))), closedRing(keeps(3, 9, nums(6, 7, 8), 81, sub(6, 1, 2, 1, nil))), toldLost(1), impl.Done},
		{closedRing(keeps(3, 9, nums(8), 81, sub(8, 4, 1, 1, nil))), closedRing(keeps(3, 9, nil, 81, sub(9, 5, 1, 1, nil))), toldGot(8, 8), impl.Done},
		// Others are further behind, and hold what it has read.
		{keeps(3, 9, nums(6, 7, 8), 81, hasGot(0, 6), sub(7, 4, 0, 1, nil)), keeps(3, 9, nums(6, 7, 8), 81, hasGot(0, 6), sub(8, 5, 0, 1, nil)), toldGot(7, 7), impl.Done},
		{keeps(3, 9, nums(6, 7, 8), 81, hasGot(0, 7), sub(6, 3, 0, 1, odd)), keeps(3, 9, nums(7, 8), 81, hasGot(0, 7), sub(8, 4, 0, 2, odd)), toldGot(7, 7), impl.Done},
		{waitedFor(keeps(3, 9, nil, 81, hasGot(7, 9), sub(9, 7, 0, 0, nil)), []int{7}, nil), waitedFor(keeps(3, 9, nil, 81, hasGot(7, 9), sub(9, 7, 0, 0, nil)), []int{7, 80}, nil), impl.Told{}, impl.Waits},
	} {
		if d, told, code := impl.Receive(x.r, 80); code != x.code || told != x.x || !sameRing(d, x.want) {
			t.Error("receive", i, d, told, code)
		}
		// To proceed is to read as well, when the Grant is gone.
		x.r.Grants = []int{80}
		if d, told, code := impl.Proceed(x.r, 80); code != x.code || told != x.x || !sameRing(d, x.want) {
			t.Error("proceed", i, d, told, code)
		}
	}
}

// TestProceedBehind a sending, a closing, both, and so many sendings that what made it a Grant is lost.
func TestProceedBehind(t *testing.T) {
	waits := waitedFor(keeps(3, 5, nil, 9, fresh(8, 5, dividedBy(2))), []int{8}, nil)
	sent := func(r impl.Ring, list ...int) impl.Ring {
		for _, n := range list {
			d, _, code := impl.Send(r, num(n))
			if code != impl.Done {
				t.Fatal("send", n, code)
			}
			r = d
		}
		return r
	}
	closed := func(r impl.Ring) impl.Ring {
		d, _, _ := impl.CloseRing(r)
		return d
	}
	for i, x := range []struct {
		r    impl.Ring
		want impl.Sub
		x    impl.Told
		code int
	}{
		{sent(waits, 2), impl.Sub{Id: 8, Start: 5, Cursor: 6, Got: 1}, toldGot(2, 5), impl.Done},
		{sent(waits, 1, 3, 5, 7, 2), impl.Sub{Id: 8, Start: 5, Cursor: 10, Got: 1, Passed: 4}, toldGot(2, 9), impl.Done},
		{sent(waits, 1, 2, 3, 4), impl.Sub{Id: 8, Start: 5, Cursor: 7, Got: 1, Passed: 1}, toldGot(2, 6), impl.Done},
		{sent(waits, 2, 4, 6, 8), impl.Sub{Id: 8, Start: 5, Cursor: 6, Lost: 1}, toldLost(1), impl.Done},
		{sent(waits, 1, 2, 3, 5, 7, 9, 11), impl.Sub{Id: 8, Start: 5, Cursor: 9, Passed: 1, Lost: 3}, toldLost(3), impl.Done},
		{closed(waits), impl.Sub{Id: 8, Start: 5, Cursor: 5}, impl.Told{}, impl.Over},
		{closed(sent(waits, 1)), impl.Sub{Id: 8, Start: 5, Cursor: 6, Passed: 1}, impl.Told{}, impl.Over},
		{closed(sent(waits, 2)), impl.Sub{Id: 8, Start: 5, Cursor: 6, Got: 1}, toldGot(2, 5), impl.Done},
		{closed(sent(waits, 2, 4, 6, 8, 10)), impl.Sub{Id: 8, Start: 5, Cursor: 7, Lost: 2}, toldLost(2), impl.Done},
	} {
		x.want.Filter = allOf(dividedBy(2))
		d, told, code := impl.Proceed(x.r, 8)
		if code != x.code || told != x.x || !sameSub(d.Subs[0], x.want) || len(d.Line)+len(d.Grants) != 0 || !impl.RingOk(d) {
			t.Error("proceed", i, d, told, code)
		}
		if d, told, code := impl.Proceed(d, 8); code != impl.None || told != (impl.Told{}) || len(d.Line)+len(d.Grants) != 0 {
			t.Error("just once", i, d, told, code)
		}
	}
}

// TestUnwaitAndCloseByHand has Ids far above all clients, in Line and in Grants.
func TestUnwaitAndCloseByHand(t *testing.T) {
	subs := []impl.Sub{hasGot(3, 9), hasGot(64, 6), hasGot(800, 9), hasGot(999999999, 9)}
	r := waitedFor(keeps(4, 9, nums(6, 7, 8), 1000000000, subs...), []int{999999999, 3}, []int{64, 800})
	for i, x := range []struct {
		id           int
		line, grants []int
	}{
		{3, []int{999999999}, []int{64, 800}}, {999999999, []int{3}, []int{64, 800}}, {64, []int{999999999, 3}, []int{800}}, {800, []int{999999999, 3}, []int{64}},
	} {
		if d, code := impl.Unwait(r, x.id); code != impl.Done || !sameRing(d, waitedFor(r, x.line, x.grants)) {
			t.Error("unwait", i, d, code)
		}
	}
	closed := closedRing(waitedFor(r, nil, []int{64, 800, 999999999, 3}))
	if d, told, code := impl.CloseRing(r); code != impl.Done || !slices.Equal(told, []int{999999999, 3}) || !sameRing(d, closed) {
		t.Error("close", d, told, code)
	}
	if d, code := impl.Unwait(closed, 800); code != impl.Done || !sameRing(d, waitedFor(closed, nil, []int{64, 999999999, 3})) {
		t.Error("unwait at a closed one", d, code)
	}
	none := waitedFor(r, nil, []int{800})
	if d, told, code := impl.CloseRing(none); code != impl.Done || len(told) != 0 || !sameRing(d, closedRing(none)) {
		t.Error("close with none in Line", d, told, code)
	}
	empty := keeps(1, 0, nil, 0)
	if d, told, code := impl.CloseRing(empty); code != impl.Done || len(told) != 0 || !sameRing(d, closedRing(empty)) {
		t.Error("close an empty one", d, told, code)
	}
}

// TestTheFirstReasonToSendAndSubscribe has several reasons to refuse.
func TestTheFirstReasonToSendAndSubscribe(t *testing.T) {
	right, wrong := num(1), impl.Msg{Kind: 1, Text: "1"}
	pass, none := allOf(bare(1)), allOf(bare(8))
	open, end, last := keeps(2, 5, nil, 7, hasGot(3, 5)), keeps(2, 1000000000, nil, 7, fresh(3, 1000000000)), keeps(2, 5, nil, 1000000000, hasGot(3, 5))
	bad, badEnd := keeps(0, 5, nil, 7, hasGot(3, 5)), keeps(2, 1000000000, nums(1), 1000000000, fresh(3, 1000000000))
	many := keeps(2, 5, nil, 12)
	for id := range 12 {
		many.Subs = append(many.Subs, hasGot(id, 5))
	}
	both := many
	both.Next = 1000000000
	for i, x := range []struct {
		r               impl.Ring
		m               impl.Msg
		f               []impl.Term
		send, subscribe int
	}{
		{open, right, pass, impl.Done, impl.Done}, {open, right, nil, impl.Done, impl.Done}, {open, wrong, none, impl.Bad, impl.Bad}, {open, impl.Msg{}, nots(13), impl.Bad, impl.Bad},
		{closedRing(open), right, pass, impl.Over, impl.Over}, {closedRing(open), wrong, none, impl.Over, impl.Bad}, {closedRing(open), right, none, impl.Over, impl.Bad}, {closedRing(open), wrong, pass, impl.Over, impl.Over},
		{bad, right, pass, impl.Bad, impl.Bad}, {bad, wrong, none, impl.Bad, impl.Bad}, {closedRing(bad), right, pass, impl.Bad, impl.Bad}, {closedRing(bad), wrong, none, impl.Bad, impl.Bad},
		{end, right, pass, impl.Full, impl.Done}, {end, wrong, none, impl.Bad, impl.Bad}, {closedRing(end), right, pass, impl.Over, impl.Over}, {closedRing(end), wrong, none, impl.Over, impl.Bad},
		{badEnd, right, pass, impl.Bad, impl.Bad}, {closedRing(badEnd), right, pass, impl.Bad, impl.Bad}, {closedRing(badEnd), wrong, none, impl.Bad, impl.Bad},
		{last, right, pass, impl.Done, impl.Full}, {last, wrong, none, impl.Bad, impl.Bad}, {closedRing(last), right, pass, impl.Over, impl.Over}, {closedRing(last), right, none, impl.Over, impl.Bad},
		{many, right, pass, impl.Done, impl.Full}, {many, right, none, impl.Done, impl.Bad}, {closedRing(many), right, pass, impl.Over, impl.Over}, {closedRing(many), right, none, impl.Over, impl.Bad}, {both, right, nil, impl.Done, impl.Full}, {closedRing(both), right, nil, impl.Over, impl.Over},
		{keeps(2, 999999999, nil, 999999999), right, pass, impl.Done, impl.Done}, {keeps(2, 1000000001, nil, 0), right, pass, impl.Bad, impl.Bad}, {keeps(2, 0, nil, 1000000001), right, pass, impl.Bad, impl.Bad},
	} {
		if d, told, code := impl.Send(x.r, x.m); code != x.send || code != impl.Done && (len(told) != 0 || !sameRing(d, x.r)) {
			t.Error("send", i, d, told, code)
		}
		for _, back := range []bool{false, true} {
			if d, id, code := impl.Subscribe(x.r, x.f, back); code != x.subscribe || code != impl.Done && (id != -1 || !sameRing(d, x.r)) || code == impl.Done && id != x.r.Next {
				t.Error("subscribe", i, back, d, id, code)
			}
		}
	}
}

// TestTheFirstReasonOfAnId has Ids that no Sub has, and ones in each list, at rings that are open, closed, and wrong.
func TestTheFirstReasonOfAnId(t *testing.T) {
	open := waitedFor(keeps(2, 5, nums(4), 70, hasGot(3, 5), hasGot(64, 5), hasGot(66, 4)), []int{64}, []int{3})
	closed := closedRing(waitedFor(keeps(2, 5, nums(4), 70, hasGot(3, 5), hasGot(64, 5), hasGot(66, 4)), nil, []int{3, 64}))
	wrong := waitedFor(keeps(2, 5, nums(4), 60, hasGot(3, 5), hasGot(64, 5), hasGot(66, 4)), []int{64}, []int{3})
	for i, x := range []struct {
		r                                      impl.Ring
		id                                     int
		unsubscribe, receive, proceed, quitted int
	}{
		{open, 3, impl.Done, impl.There, impl.Waits, impl.Done}, {open, 64, impl.Done, impl.There, impl.Waits, impl.Done}, {open, 66, impl.Done, impl.Done, impl.None, impl.None},
		{open, 0, impl.None, impl.None, impl.None, impl.None}, {open, -1, impl.None, impl.None, impl.None, impl.None}, {open, 69, impl.None, impl.None, impl.None, impl.None}, {open, 70, impl.None, impl.None, impl.None, impl.None}, {open, math.MaxInt, impl.None, impl.None, impl.None, impl.None}, {open, math.MinInt, impl.None, impl.None, impl.None, impl.None},
		{closed, 3, impl.Done, impl.There, impl.Over, impl.Done}, {closed, 64, impl.Done, impl.There, impl.Over, impl.Done}, {closed, 66, impl.Done, impl.Done, impl.None, impl.None}, {closed, 0, impl.None, impl.None, impl.None, impl.None}, {closed, 70, impl.None, impl.None, impl.None, impl.None},
		{wrong, 3, impl.Bad, impl.Bad, impl.Bad, impl.Bad}, {wrong, 64, impl.Bad, impl.Bad, impl.Bad, impl.Bad}, {wrong, 66, impl.Bad, impl.Bad, impl.Bad, impl.Bad}, {wrong, 0, impl.Bad, impl.Bad, impl.Bad, impl.Bad}, {closedRing(wrong), 3, impl.Bad, impl.Bad, impl.Bad, impl.Bad}, {closedRing(wrong), 0, impl.Bad, impl.Bad, impl.Bad, impl.Bad},
	} {
		refuses := func(code int) bool { return code == impl.Bad || code == impl.None || code == impl.There }
		if d, code := impl.Unsubscribe(x.r, x.id); code != x.unsubscribe || refuses(code) && !sameRing(d, x.r) {
			t.Error("unsubscribe", i, d, code)
		}
		if d, told, code := impl.Receive(x.r, x.id); code != x.receive || refuses(code) && (told != impl.Told{} || !sameRing(d, x.r)) {
			t.Error("receive", i, d, told, code)
		}
		if d, told, code := impl.Proceed(x.r, x.id); code != x.proceed || refuses(code) && (told != impl.Told{} || !sameRing(d, x.r)) {
			t.Error("proceed", i, d, told, code)
		}
		if d, code := impl.Unwait(x.r, x.id); code != x.quitted || refuses(code) && !sameRing(d, x.r) {
			t.Error("unwait", i, d, code)
		}
	}
	if d, told, code := impl.CloseRing(closed); code != impl.Over || len(told) != 0 || !sameRing(d, closed) {
		t.Error("close once more", d, told, code)
	}
	for _, r := range []impl.Ring{wrong, closedRing(wrong)} {
		if d, told, code := impl.CloseRing(r); code != impl.Bad || len(told) != 0 || !sameRing(d, r) {
			t.Error("close a wrong one", d, told, code)
		}
	}
	// Told at Sent on an open ring, as no call of the chapter leaves it: it has to wait once more, behind the others.
	if d, told, code := impl.Proceed(open, 3); code != impl.Waits || told != (impl.Told{}) || !sameRing(d, waitedFor(open, []int{64, 3}, nil)) {
		t.Error("waits once more", d, told, code)
	}
	if d, told, code := impl.Proceed(open, 64); code != impl.Waits || told != (impl.Told{}) || !sameRing(d, open) {
		t.Error("waits", d, told, code)
	}
}
