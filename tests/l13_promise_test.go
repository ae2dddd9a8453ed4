package tests

import (
	"fmt"
	"slices"
	"testing"

	"loop.example/g00098/impl"
)

// The tests of this file hold the program's answers against each other, as the promise says it.

// checkSettled: an answer with another code than those with which something is done has the hub as it was, and the Code alone; what is done leaves a right hub.
func checkSettled(t *testing.T, what string, h impl.Hub, c impl.Call, a hubAnswer, done ...int) {
	t.Helper()
	if !slices.Contains(done, a.r.Code) && (!sameHub(a.h, h) || a.r != code(a.r.Code)) {
		t.Fatalf("%s is refused, and changes something: %+v, %+v of %s: %s", what, c, a.r, brief(h), brief(a.h))
	}
	if impl.HubOk(a.h) != impl.HubOk(h) {
		t.Fatalf("%s leaves a wrong hub: %+v, %+v of %s: %s", what, c, a.r, brief(h), brief(a.h))
	}
}

// withoutThing is a hub in which nobody waits at what a call that may block names, and nobody was told there; what was told may have been stored or spilt by that.
func withoutThing(h impl.Hub, who int, c impl.Call) impl.Hub {
	d := cloneHub(h)
	switch c.Op {
	case impl.OpAwait:
		d.Notes[c.A] = impl.Notify{}
	case impl.OpStand:
		e := &d.Events[c.A]
		e.Line, e.Grants = nil, nil
		if e.Auto {
			*e = impl.Event{}
		}
	case impl.OpLatch:
		d.Latches[c.A].Line, d.Latches[c.A].Grants = nil, nil
	case impl.OpWatch:
		d.Cells[c.A].Line, d.Cells[c.A].Grants = nil, nil
	case impl.OpRecv:
		r := &d.Topics[h.Users[who].Subs[c.B].Topic].Ring
		r.Line, r.Grants = nil, nil
	}
	return d
}

// checkTellingsKept: no telling and no raising is gone; it is spilt only where one is stored already.
func checkTellingsKept(t *testing.T, h impl.Hub, d impl.Hub, c impl.Call) {
	t.Helper()
	switch c.Op {
	case impl.OpAwait:
		n, m := h.Notes[c.A], d.Notes[c.A]
		spilt := m.Spilt - n.Spilt
		if m.Ones != n.Ones || m.Taken != n.Taken || heldBy(m) != heldBy(n) || spilt != 0 && (spilt != 1 || !n.Permit || !m.Permit) {
			t.Fatal("a telling is gone", n, m)
		}
	case impl.OpStand:
		e, f := h.Events[c.A], d.Events[c.A]
		spilt := f.Spilt - e.Spilt
		if e.Auto && (!f.Auto || f.Sets != e.Sets || f.Taken != e.Taken || raisingsIn(f) != raisingsIn(e) || spilt != 0 && (spilt != 1 || !e.Up || !f.Up)) {
			t.Fatal("a raising is gone", e, f)
		}
	}
}

// checkGivenUp: who aborts is in neither list any more, and has taken nothing; N others are told by that, the first ones in line, and no one else stands otherwise than before.
func checkGivenUp(t *testing.T, h impl.Hub, who int, c impl.Call, a hubAnswer) {
	t.Helper()
	line, grants, number := standsAt(h, who, c)
	lineAfter, grantsAfter, _ := standsAt(a.h, who, c)
	rest := without(line, number)
	if a.r.N < 0 || a.r.N > len(rest) || a.r != (impl.Reply{Code: impl.Off, N: a.r.N}) {
		t.Fatal("told", h, who, c, a)
	}
	if !slices.Equal(lineAfter, rest[a.r.N:]) || !slices.Equal(grantsAfter, append(without(grants, number), rest[:a.r.N]...)) {
		t.Fatal("stands otherwise", h, who, c, a)
	}
	if a.r.N > 0 && (!slices.Contains(grants, number) || a.r.N > 1) {
		t.Fatal("told by one who waited", h, who, c, a)
	}
	if !sameHub(withoutThing(a.h, who, c), withoutThing(h, who, c)) {
		t.Fatal("something is taken", h, who, c, a)
	}
	checkTellingsKept(t, h, a.h, c)
	checkCanComeAgain(t, a.h, who, c)
}

// checkNotThere: who has gone on, or has given up, can do neither once more.
func checkNotThere(t *testing.T, h impl.Hub, who int, c impl.Call) {
	t.Helper()
	if impl.Free(h, who, c) {
		t.Fatal("free once more", h, who, c)
	}
	for _, a := range []hubAnswer{endOf(h, who, c), abortOf(h, who, c)} {
		if a.r != code(impl.None) || !sameHub(a.h, h) {
			t.Fatal("once more", h, who, c, a)
		}
	}
}

// checkWaits: who must wait is not free and can't end; when it gives up at once all is as it was, but that a subscriber has passed by what it did not want.
func checkWaits(t *testing.T, h impl.Hub, who int, c impl.Call, d impl.Hub) {
	t.Helper()
	if impl.Free(d, who, c) {
		t.Fatal("waits, and is free", h, who, c)
	}
	if a := endOf(d, who, c); a.r != code(impl.Waits) || !sameHub(a.h, d) {
		t.Fatal("waits, and goes on", h, who, c, a)
	}
	line, grants, number := standsAt(d, who, c)
	before, grantsBefore, _ := standsAt(h, who, c)
	if !slices.Equal(line, append(slices.Clone(before), number)) || !slices.Equal(grants, grantsBefore) {
		t.Fatal("waits elsewhere", h, who, c, d)
	}
	a := abortOf(d, who, c)
	checkGivenUp(t, d, who, c, a)
	want := cloneHub(h)
	if c.Op == impl.OpRecv {
		hit := h.Users[who].Subs[c.B]
		r, x := &want.Topics[hit.Topic].Ring, subOf(a.h.Topics[hit.Topic].Ring, hit.Id)
		s := &r.Subs[subPlace(*r, hit.Id)]
		if x.Cursor != r.Sent || x.Passed-s.Passed != x.Cursor-s.Cursor || x.Got != s.Got || x.Lost != s.Lost {
			t.Fatal("something is read", h, who, c, d)
		}
		*s = x
		trim(r)
	}
	if !sameHub(a.h, want) || a.r.N != 0 {
		t.Fatal("not as it was", h, who, c, a)
	}
}

// checkPromises is of a hub that was come to by calls alone.
func checkPromises(t *testing.T, h impl.Hub, who int, c impl.Call) {
	t.Helper()
	does, ends, quits := doOf(h, who, c), endOf(h, who, c), abortOf(h, who, c)
	checkSettled(t, "Do", h, c, does, impl.Done, impl.Waits, impl.Over)
	checkSettled(t, "End", h, c, ends, impl.Done, impl.Waits, impl.Over)
	checkSettled(t, "Abort", h, c, quits, impl.Off)
	if does.r.Code == impl.Waits {
		checkWaits(t, h, who, c, does.h)
	}
	free := impl.Free(h, who, c)
	if goes := ends.r.Code == impl.Done || ends.r.Code == impl.Over; goes != free {
		t.Fatal("free, or goes on", h, who, c, free, ends)
	}
	if ends.r.Code == impl.Waits && !sameHub(ends.h, h) {
		t.Fatal("still waits, and changes something", h, who, c, ends)
	}
	if free {
		checkNotThere(t, ends.h, who, c)
		checkWentOn(t, h, who, c, ends)
	}
	if quits.r.Code == impl.Off {
		checkGivenUp(t, h, who, c, quits)
		if free == (ends.r.Code == impl.Waits) {
			t.Fatal("gives up", h, who, c, ends)
		}
	}
}

// checkCanComeAgain is for who has given up: it stands nowhere there any more.
func checkCanComeAgain(t *testing.T, h impl.Hub, who int, c impl.Call) {
	t.Helper()
	checkNotThere(t, h, who, c)
	if a := doOf(h, who, byToken(c, -1)); a.r.Code == impl.There {
		t.Fatal("still there", h, who, c)
	}
}

// checkWentOn: who goes on leaves the others where they stood.
func checkWentOn(t *testing.T, h impl.Hub, who int, c impl.Call, a hubAnswer) {
	t.Helper()
	line, grants, number := standsAt(h, who, c)
	lineAfter, grantsAfter, _ := standsAt(a.h, who, c)
	if !slices.Equal(lineAfter, line) || !slices.Equal(grantsAfter, without(grants, number)) {
		t.Fatal("others stand otherwise", h, who, c, a)
	}
}

// smallHub is built by a plan, and each of its clients does these calls, ends them and aborts them, until stop.
type smallHub struct {
	plan  impl.Plan
	calls []impl.Call
	stop  func(h impl.Hub) bool
	least int
}

func smallHubs() []smallHub {
	notes := impl.Plan{Tokens: []int{-1}, Notes: 1, Users: 3}
	topicPlan := impl.Plan{Names: []string{"a"}, Caps: []int{1}, Users: 2}
	numbers := allOf(bare(2))
	return []smallHub{
		{notes, []impl.Call{asks(impl.OpTell, 0), asks(impl.OpTellAll, 0), asks(impl.OpAwait, 0), byToken(asks(impl.OpAwait, 0), 0), asks(impl.OpCancel, 0)}, func(h impl.Hub) bool { return h.Notes[0].Ones > 3 }, 1700},
		{impl.Plan{Autos: []bool{true}, Users: 3}, []impl.Call{asks(impl.OpRaise, 0), asks(impl.OpReset, 0), asks(impl.OpStand, 0)}, func(h impl.Hub) bool { return h.Events[0].Sets > 4 }, 530},
		{impl.Plan{Autos: []bool{false}, Counts: []int{2}, Users: 2}, []impl.Call{asks(impl.OpRaise, 0), asks(impl.OpReset, 0), asks(impl.OpStand, 0), asksWith(impl.OpDown, 0, 1), asks(impl.OpLatch, 0)}, func(h impl.Hub) bool { return false }, 240},
		{impl.Plan{Vals: nums(1), Users: 3}, []impl.Call{changes(0, add(1)), asks(impl.OpLook, 0), asks(impl.OpWatch, 0), asks(impl.OpShut, 0)}, func(h impl.Hub) bool { return h.Cells[0].Version > 2 }, 1400},
		{topicPlan, []impl.Call{publishes(">", num(1)), publishes("a", text("a")), subscribes(0, 1, numbers), takes(impl.OpRecv, 0), takes(impl.OpUnsub, 0), asks(impl.OpClose, 0)}, func(h impl.Hub) bool {
			return h.Topics[0].Ring.Sent > 2 || len(h.Users[0].Subs)+len(h.Users[1].Subs) > 2
		}, 2600},
	}
}

// TestEveryRowOfASmallHub does all rows of calls, going on from each state just once until there is no other one, and looks at the promise in each.
func TestEveryRowOfASmallHub(t *testing.T) {
	for i, x := range smallHubs() {
		h, code, _ := impl.Build(x.plan)
		if code != impl.Done {
			t.Fatal("not built", i)
		}
		seen := map[string]bool{}
		for states := []impl.Hub{h}; len(states) > 0; states = states[1:] {
			h := states[0]
			for who := range h.Users {
				for _, c := range x.calls {
					checkPromises(t, h, who, c)
					for _, a := range []hubAnswer{doOf(h, who, c), endOf(h, who, c), abortOf(h, who, c)} {
						if key := fmt.Sprint(a.h); !x.stop(a.h) && !seen[key] {
							seen[key] = true
							states = append(states, a.h)
						}
					}
				}
			}
		}
		if len(seen) < x.least {
			t.Error("these rows come to too little", i, len(seen))
		}
	}
}

// must does a call of which the code is known.
func must(t *testing.T, h *impl.Hub, who int, c impl.Call, want int) impl.Reply {
	t.Helper()
	d, r := impl.Do(*h, who, c)
	if r.Code != want {
		t.Fatal("do", who, c, r, want)
	}
	*h = d
	return r
}

// TestWhoIsFreeGoesOnOnce lets three wait at each thing, and tells all of them: each goes on just once, and in any order.
func TestWhoIsFreeGoesOnOnce(t *testing.T) {
	p := impl.Plan{Notes: 1, Autos: []bool{false}, Counts: []int{1}, Vals: nums(4), Names: []string{"a"}, Caps: []int{2}, Users: 3}
	start, _, _ := impl.Build(p)
	for who := range 3 {
		must(t, &start, who, subscribes(0, 0, nil), impl.Done)
	}
	for i, x := range []struct {
		waits, tells impl.Call
		r            impl.Reply
	}{
		{asks(impl.OpAwait, 0), asks(impl.OpTellAll, 0), impl.Reply{}}, {asks(impl.OpStand, 0), asks(impl.OpRaise, 0), impl.Reply{}}, {asks(impl.OpLatch, 0), asksWith(impl.OpDown, 0, 1), impl.Reply{}},
		{asks(impl.OpWatch, 0), changes(0, add(3)), impl.Reply{N: 1, Msg: num(7)}}, {asks(impl.OpWatch, 0), asks(impl.OpShut, 0), impl.Reply{Code: impl.Over, Msg: num(4)}},
		{takes(impl.OpRecv, 0), publishes("a", num(8)), impl.Reply{Msg: num(8)}}, {takes(impl.OpRecv, 0), asks(impl.OpClose, 0), code(impl.Over)},
	} {
		h := start
		for who := range 3 {
			must(t, &h, who, x.waits, impl.Waits)
		}
		must(t, &h, 1, x.tells, impl.Done)
		eachOrder(3, func(order []int) {
			h := h
			for _, who := range order {
				if !impl.Free(h, who, x.waits) {
					t.Fatal("not free", i, order, who)
				}
				a := endOf(h, who, x.waits)
				if a.r != x.r {
					t.Fatal("goes on", i, order, who, a.r)
				}
				checkNotThere(t, a.h, who, x.waits)
				h = a.h
			}
		})
	}
}

// TestWhoAbortsLeavesTheTelling passes a telling of one, and a raising, on from each to the next, and in the end it is there for who comes then.
func TestWhoAbortsLeavesTheTelling(t *testing.T) {
	start, _, _ := impl.Build(impl.Plan{Tokens: []int{-1}, Notes: 1, Autos: []bool{true}, Users: 4})
	for i, x := range []struct {
		waits, tells impl.Call
		told         int
	}{{byToken(asks(impl.OpAwait, 0), 0), asks(impl.OpTell, 0), 0}, {byToken(asks(impl.OpStand, 0), 0), asks(impl.OpRaise, 0), 1}} {
		h := start
		for who := range 3 {
			must(t, &h, who, x.waits, impl.Waits)
		}
		if r := must(t, &h, 3, x.tells, impl.Done); r.N != x.told {
			t.Fatal("told", i, r)
		}
		must(t, &h, 3, asks(impl.OpCancel, 0), impl.Done)
		for who := range 3 {
			for other := range 3 {
				if impl.Free(h, other, x.waits) != (who == other) {
					t.Fatal("free", i, who, other)
				}
			}
			want := impl.Reply{Code: impl.Off, N: 1}
			if who == 2 {
				want.N = 0
			}
			a := abortOf(h, who, x.waits)
			if a.r != want {
				t.Fatal("passed on", i, who, a.r)
			}
			checkGivenUp(t, h, who, x.waits, a)
			h = a.h
		}
		if must(t, &h, 3, byToken(x.waits, -1), impl.Done); h.Notes[0].Taken+h.Events[0].Taken != 1 {
			t.Fatal("it was gone", i, h)
		}
		must(t, &h, 3, byToken(x.waits, -1), impl.Waits)
		must(t, &h, 2, x.waits, impl.Off)
	}
}

// TestWhoAbortsWithAllTakesNothing: a telling of all is not passed on.
func TestWhoAbortsWithAllTakesNothing(t *testing.T) {
	h, _, _ := impl.Build(impl.Plan{Notes: 1, Users: 3})
	await := asks(impl.OpAwait, 0)
	must(t, &h, 0, await, impl.Waits)
	must(t, &h, 1, asks(impl.OpTellAll, 0), impl.Done)
	must(t, &h, 1, await, impl.Waits)
	a := abortOf(h, 0, await)
	if a.r != code(impl.Off) || a.h.Notes[0].Permit || impl.Free(a.h, 1, await) || !slices.Equal(a.h.Notes[0].Line, []int{1}) {
		t.Error("passed on", a)
	}
}

// TestWhoAbortsLeavesTheMessage: who was told of a message and gives up has not got it, and is told it when it comes again.
func TestWhoAbortsLeavesTheMessage(t *testing.T) {
	h, _, _ := impl.Build(impl.Plan{Names: []string{"a"}, Caps: []int{3}, Users: 1})
	recv := takes(impl.OpRecv, 0)
	must(t, &h, 0, subscribes(0, 0, allOf(bare(2))), impl.Done)
	must(t, &h, 0, recv, impl.Waits)
	must(t, &h, 0, publishes("a", text("no")), impl.Done)
	if r := must(t, &h, 0, publishes("a", num(5)), impl.Done); r != (impl.Reply{N: 1, M: 1}) {
		t.Fatal("told", r)
	}
	a := abortOf(h, 0, recv)
	if s := a.h.Topics[0].Ring.Subs[0]; a.r != code(impl.Off) || s.Got != 0 || s.Passed != 1 || s.Cursor != 1 {
		t.Fatal("taken", a)
	}
	h = a.h
	if r := must(t, &h, 0, recv, impl.Done); r != (impl.Reply{N: 1, Msg: num(5)}) {
		t.Fatal("it was gone", r)
	}
	must(t, &h, 0, recv, impl.Waits)
	must(t, &h, 0, asks(impl.OpClose, 0), impl.Done)
	h = abortOf(h, 0, recv).h
	must(t, &h, 0, recv, impl.Over)
}

// TestWhoAbortsHasSeenNothing: who was told of a version and gives up has not seen it, and does not wait when it comes again.
func TestWhoAbortsHasSeenNothing(t *testing.T) {
	h, _, _ := impl.Build(impl.Plan{Vals: nums(4), Users: 2})
	watch := asks(impl.OpWatch, 0)
	must(t, &h, 0, watch, impl.Waits)
	must(t, &h, 1, changes(0, add(1)), impl.Done)
	a := abortOf(h, 0, watch)
	if a.r != code(impl.Off) || a.h.Users[0].Seen[0] != 0 {
		t.Fatal("seen", a)
	}
	h = a.h
	if r := must(t, &h, 0, watch, impl.Done); r != (impl.Reply{N: 1, Msg: num(5)}) || h.Users[0].Seen[0] != 1 {
		t.Fatal("it was gone", r)
	}
	// Who looks has seen it, too, and waits for the next one.
	must(t, &h, 1, asks(impl.OpLook, 0), impl.Done)
	must(t, &h, 1, watch, impl.Waits)
	must(t, &h, 0, asks(impl.OpShut, 0), impl.Done)
	if a := endOf(h, 1, watch); a.r != (impl.Reply{Code: impl.Over, N: 1, Msg: num(5)}) {
		t.Error("shut", a.r)
	}
}

// TestPromisesAtTheHandHub looks at refusals at things of each kind, also at those that no calls have come to.
func TestPromisesAtTheHandHub(t *testing.T) {
	h := handHub()
	for who := range h.Users {
		for _, c := range callsAt(h, []int{1, 3}) {
			does, ends, quits := doOf(h, who, c), endOf(h, who, c), abortOf(h, who, c)
			checkSettled(t, "Do", h, c, does, impl.Done, impl.Waits, impl.Over)
			checkSettled(t, "End", h, c, ends, impl.Done, impl.Waits, impl.Over)
			checkSettled(t, "Abort", h, c, quits, impl.Off)
			if does.r.Code == impl.Waits {
				checkWaits(t, h, who, c, does.h)
			}
			if quits.r.Code == impl.Off {
				checkGivenUp(t, h, who, c, quits)
			}
			if free := impl.Free(h, who, c); free && (ends.r.Code != impl.Done && ends.r.Code != impl.Over && ends.r.Code != impl.Waits || sameHub(ends.h, h) || impl.Free(ends.h, who, c)) {
				t.Fatal("free", who, c, ends.r)
			}
		}
	}
}
