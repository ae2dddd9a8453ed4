package tests

import (
	"math"
	"slices"
	"strings"
	"testing"

	"loop.example/g00098/impl"
)

// The tests of this file have their answers written out, so that they lean on no second way to work them out.

func asks(op int, a int) impl.Call { return impl.Call{Op: op, A: a, Tok: -1} }

func asksWith(op int, a int, b int) impl.Call { return impl.Call{Op: op, A: a, B: b, Tok: -1} }

func byToken(c impl.Call, token int) impl.Call {
	c.Tok = token
	return c
}

func changes(a int, x impl.Change) impl.Call {
	return impl.Call{Op: impl.OpUpdate, A: a, B: x.Kind, Msg: x.Msg, Tok: -1}
}

func publishes(pattern string, m impl.Msg) impl.Call {
	return impl.Call{Op: impl.OpPublish, Name: pattern, Msg: m, Tok: -1}
}

func subscribes(a int, back int, f []impl.Term) impl.Call {
	return impl.Call{Op: impl.OpSub, A: a, B: back, Filter: f, Tok: -1}
}

// takes is a call at a place of the client's Subs.
func takes(op int, place int) impl.Call { return impl.Call{Op: op, B: place, Tok: -1} }

// users are n clients without subscriptions that have seen these versions.
func users(n int, seen ...int) []impl.User {
	return cloneEach(slices.Repeat([]impl.User{{Seen: seen}}, n), cloneUser)
}

// handRing is read by a merge's Leg (0), by who has messages to read (2), has lost some (3), waits (4), was told (5), wants texts only (6), and was told though there is nothing any more (7).
func handRing() impl.Ring {
	subs := []impl.Sub{fresh(0, 6), fresh(2, 4), fresh(3, 1), fresh(4, 6), fresh(5, 4), fresh(6, 4, bare(3)), fresh(7, 6)}
	return waitedFor(keeps(2, 6, nums(15, 16), 9, subs...), []int{4}, []int{5, 7})
}

// handClosed is read to its end by 1, and 2 has only messages left that it does not want.
func handClosed() impl.Ring {
	return closedRing(keeps(2, 6, nums(15, 16), 3, fresh(1, 6), fresh(2, 4, bare(3))))
}

// twelveSubs is a ring that takes no Sub any more.
func twelveSubs() impl.Ring {
	return ringOf(2, 3, subsBehind(3, 1, 0, 0, 0, 0, 0, 0, 0, 0, 0, 0, 0, 0)...)
}

// handHub has things of each kind, so that each call finds each code that what it asks can answer. Tokens 2 and 3 are off.
func handHub() impl.Hub {
	h := impl.Hub{
		Tokens: tokens([]int{-1, 0, -1, 2, 1}, 2, 3),
		Clock:  clock(10, [2]int{15, 1}, [2]int{15, 0}, [2]int{20, 4}),
		Notes: []impl.Notify{
			{}, {Permit: true, Ones: 1}, {Line: []int{1, 2}, Grants: append(byOne(3), byAll(4)...), Ones: 1}, {Ones: most, Taken: most},
			{Line: upTo(6, 32), Grants: byAll(upTo(38, 26)...)}, {Line: []int{1}, Grants: byAll(upTo(6, 32)...)}, {Permit: true, Grants: byOne(3), Ones: 4, Taken: 2}, {Line: []int{5}, Grants: byAll(0), Ones: 3, Spilt: 1, Taken: 2},
		},
		Events: []impl.Event{
			{Auto: true}, {Auto: true, Up: true, Sets: 1}, {Auto: true, Line: []int{1, 2}, Grants: []int{3}, Sets: 1}, {Auto: true, Sets: most, Taken: most},
			{Auto: true, Line: []int{1}, Grants: upTo(6, 32), Sets: 32}, {Line: []int{1, 2}, Grants: []int{3}}, {Up: true, Grants: []int{4}}, {Line: upTo(6, 32), Grants: upTo(38, 26)},
		},
		Latches: []impl.Latch{{}, {Count: 3, Line: []int{1, 2}, Grants: []int{3}}, {Grants: []int{3, 4}}, {Count: 2, Line: upTo(6, 32), Grants: upTo(38, 26)}, {Count: most}},
		Cells: []impl.Cell{
			openCell(num(7), 0, nil, nil), openCell(text("ab"), 5, []int{1, 2}, []int{3}), shutCell(num(9), 4, nil, []int{4}), openCell(num(1), most, nil, nil), openCell(num(1), 8, upTo(6, 32), upTo(38, 26)),
		},
		Topics: topics(topic("a", handRing()), topic("a.b", handClosed()), topic("b", twelveSubs()), topic("into", twoWait()), topic("c", keeps(1, most, nil, 1, fresh(0, most))), topic("n", keeps(1, 0, nil, 0))),
		Merges: []impl.Merge{mergeInto(3, legAt(0, 0)), mergeInto(5, legAt(4, 0), overAt(1, 9))},
		Users:  users(6, 0, 5, 4, most, 8),
	}
	h.Users[0] = impl.User{Subs: hits([2]int{0, 2}, [2]int{0, 3}, [2]int{1, 1}, [2]int{1, 2}, [2]int{0, 1}, [2]int{5, 0}), Seen: []int{-1, 4, 3, most, 8}}
	h.Users[1].Subs, h.Users[2].Subs, h.Users[3].Subs, h.Users[4].Subs = hits([2]int{0, 4}), hits([2]int{0, 5}), hits([2]int{5, 3}, [2]int{0, 6}), hits([2]int{0, 7})
	h.Users[5].Subs = slices.Repeat(hits([2]int{1, 8}), 12)
	return h
}

func TestHubConstants(t *testing.T) {
	if impl.MaxThings != 8 || impl.Off != 7 {
		t.Error("constants", impl.MaxThings, impl.Off)
	}
	ops := []int{impl.OpTell, impl.OpTellAll, impl.OpAwait, impl.OpRaise, impl.OpReset, impl.OpStand, impl.OpDown, impl.OpLatch, impl.OpUpdate, impl.OpLook, impl.OpWatch, impl.OpShut, impl.OpPublish, impl.OpSub, impl.OpRecv, impl.OpUnsub, impl.OpClose, impl.OpCancel, impl.OpTimer}
	if !slices.Equal(ops, upTo(1, 19)) {
		t.Error("ops", ops)
	}
}

// hubCase has in change what is not as it was.
type hubCase struct {
	who    int
	c      impl.Call
	r      impl.Reply
	change func(h *impl.Hub)
}

func code(n int) impl.Reply { return impl.Reply{Code: n} }

func checkCases(t *testing.T, h impl.Hub, ask func(h impl.Hub, who int, c impl.Call) hubAnswer, cases []hubCase) {
	t.Helper()
	for i, x := range cases {
		want := cloneHub(h)
		if x.change != nil {
			x.change(&want)
		}
		if got := ask(h, x.who, x.c); got.r != x.r || !sameHub(got.h, want) {
			t.Errorf("%d: %d asks %+v: %+v, %s; want %+v, %s", i, x.who, x.c, got.r, brief(got.h), x.r, brief(want))
		}
		if !impl.HubOk(want) {
			t.Error("not right", i, x.c)
		}
	}
}

func TestNotesOfAHubByHand(t *testing.T) {
	note := func(i int, n impl.Notify) func(h *impl.Hub) { return func(h *impl.Hub) { h.Notes[i] = n } }
	tell, all, await := impl.OpTell, impl.OpTellAll, impl.OpAwait
	three := append(byOne(3), byAll(4)...)
	full := append(byAll(upTo(38, 26)...), byOne(6)...)
	checkCases(t, handHub(), doOf, []hubCase{
		{0, asks(tell, 0), impl.Reply{N: -1}, note(0, impl.Notify{Permit: true, Ones: 1})},
		{5, asks(tell, 1), impl.Reply{N: -1}, note(1, impl.Notify{Permit: true, Ones: 2, Spilt: 1})},
		{0, asks(tell, 2), impl.Reply{N: 1}, note(2, impl.Notify{Line: []int{2}, Grants: append(slices.Clone(three), byOne(1)...), Ones: 2})},
		{1, asks(tell, 2), impl.Reply{N: 1}, note(2, impl.Notify{Line: []int{2}, Grants: append(slices.Clone(three), byOne(1)...), Ones: 2})},
		{0, asks(tell, 3), code(impl.Full), nil},
		{0, asks(tell, 4), impl.Reply{N: 6}, note(4, impl.Notify{Line: upTo(7, 31), Grants: full, Ones: 1})},
		{0, asks(tell, 5), code(impl.Full), nil},
		{0, asks(tell, 7), impl.Reply{N: 5}, note(7, impl.Notify{Grants: append(byAll(0), byOne(5)...), Ones: 4, Spilt: 1, Taken: 2})},
		{0, asks(tell, 8), code(impl.None), nil}, {0, asks(tell, -1), code(impl.None), nil}, {0, asks(tell, math.MaxInt), code(impl.None), nil}, {0, asks(tell, math.MinInt), code(impl.None), nil},
		{0, asks(all, 0), impl.Reply{}, nil}, {0, asks(all, 1), impl.Reply{}, nil}, {0, asks(all, 3), impl.Reply{}, nil},
		{0, asks(all, 2), impl.Reply{N: 2}, note(2, impl.Notify{Grants: append(slices.Clone(three), byAll(1, 2)...), Ones: 1})},
		{5, asks(all, 7), impl.Reply{N: 1}, note(7, impl.Notify{Grants: byAll(0, 5), Ones: 3, Spilt: 1, Taken: 2})},
		{0, asks(all, 4), code(impl.Full), nil}, {0, asks(all, 5), code(impl.Full), nil}, {0, asks(all, 8), code(impl.None), nil}, {0, asks(all, -1), code(impl.None), nil},
		{0, asks(await, 0), code(impl.Waits), note(0, impl.Notify{Line: []int{0}})},
		{5, asks(await, 1), impl.Reply{}, note(1, impl.Notify{Ones: 1, Taken: 1})},
		{0, asks(await, 2), code(impl.Waits), note(2, impl.Notify{Line: []int{1, 2, 0}, Grants: three, Ones: 1})},
		{1, asks(await, 2), code(impl.There), nil}, {3, asks(await, 2), code(impl.There), nil}, {4, asks(await, 2), code(impl.There), nil}, {3, asks(await, 6), code(impl.There), nil},
		{0, asks(await, 6), impl.Reply{}, note(6, impl.Notify{Grants: byOne(3), Ones: 4, Taken: 3})},
		{0, asks(await, 3), code(impl.Full), nil}, {0, asks(await, 4), code(impl.Full), nil},
		{0, asks(await, 5), code(impl.Waits), note(5, impl.Notify{Line: []int{1, 0}, Grants: byAll(upTo(6, 32)...)})},
		{0, asks(await, 8), code(impl.None), nil}, {0, asks(await, -1), code(impl.None), nil}, {0, asks(await, math.MinInt), code(impl.None), nil},
		{0, byToken(asks(await, 0), 0), code(impl.Waits), note(0, impl.Notify{Line: []int{0}})},
		{0, byToken(asks(await, 0), 4), code(impl.Waits), note(0, impl.Notify{Line: []int{0}})},
		{0, byToken(asks(await, 1), 1), impl.Reply{}, note(1, impl.Notify{Ones: 1, Taken: 1})},
		{0, byToken(asks(await, 1), 2), code(impl.Off), nil}, {0, byToken(asks(await, 0), 3), code(impl.Off), nil}, {1, byToken(asks(await, 2), 2), code(impl.Off), nil}, {0, byToken(asks(await, 3), 3), code(impl.Off), nil},
		{0, byToken(asks(await, 0), 5), code(impl.None), nil}, {0, byToken(asks(await, 0), math.MaxInt), code(impl.None), nil}, {1, byToken(asks(await, 2), 5), code(impl.None), nil},
		{0, byToken(asks(await, 8), 2), code(impl.None), nil}, {0, byToken(asks(await, -1), 2), code(impl.None), nil}, {0, byToken(asks(await, 8), 5), code(impl.None), nil},
	})
}

func TestEventsOfAHubByHand(t *testing.T) {
	event := func(i int, e impl.Event) func(h *impl.Hub) { return func(h *impl.Hub) { h.Events[i] = e } }
	raise, reset, stand := impl.OpRaise, impl.OpReset, impl.OpStand
	checkCases(t, handHub(), doOf, []hubCase{
		{0, asks(raise, 0), impl.Reply{}, event(0, impl.Event{Auto: true, Up: true, Sets: 1})},
		{0, asks(raise, 1), impl.Reply{}, event(1, impl.Event{Auto: true, Up: true, Sets: 2, Spilt: 1})},
		{0, asks(raise, 2), impl.Reply{N: 1}, event(2, impl.Event{Auto: true, Line: []int{2}, Grants: []int{3, 1}, Sets: 2})},
		{0, asks(raise, 5), impl.Reply{N: 2}, event(5, impl.Event{Up: true, Grants: []int{3, 1, 2}})},
		{0, asks(raise, 6), impl.Reply{}, nil},
		{0, asks(raise, 3), code(impl.Full), nil}, {0, asks(raise, 4), code(impl.Full), nil}, {0, asks(raise, 7), code(impl.Full), nil}, {0, asks(raise, 8), code(impl.None), nil}, {0, asks(raise, -1), code(impl.None), nil},
		{0, asks(reset, 0), impl.Reply{}, nil}, {0, asks(reset, 2), impl.Reply{}, nil}, {0, asks(reset, 5), impl.Reply{}, nil},
		{0, asks(reset, 1), impl.Reply{}, event(1, impl.Event{Auto: true, Sets: 1, Spilt: 1})},
		{0, asks(reset, 6), impl.Reply{}, event(6, impl.Event{Grants: []int{4}})},
		{0, asks(reset, 8), code(impl.None), nil}, {0, asks(reset, -1), code(impl.None), nil},
		{0, asks(stand, 0), code(impl.Waits), event(0, impl.Event{Auto: true, Line: []int{0}})},
		{0, asks(stand, 1), impl.Reply{}, event(1, impl.Event{Auto: true, Sets: 1, Taken: 1})},
		{0, asks(stand, 5), code(impl.Waits), event(5, impl.Event{Line: []int{1, 2, 0}, Grants: []int{3}})},
		{0, asks(stand, 6), impl.Reply{}, nil}, {4, asks(stand, 6), code(impl.There), nil}, {1, asks(stand, 2), code(impl.There), nil}, {3, asks(stand, 2), code(impl.There), nil}, {3, asks(stand, 5), code(impl.There), nil},
		{0, asks(stand, 3), code(impl.Full), nil}, {0, asks(stand, 7), code(impl.Full), nil}, {0, asks(stand, 8), code(impl.None), nil}, {0, asks(stand, -1), code(impl.None), nil},
		{0, byToken(asks(stand, 1), 0), impl.Reply{}, event(1, impl.Event{Auto: true, Sets: 1, Taken: 1})},
		{0, byToken(asks(stand, 1), 2), code(impl.Off), nil}, {1, byToken(asks(stand, 2), 3), code(impl.Off), nil}, {0, byToken(asks(stand, 1), 5), code(impl.None), nil}, {0, byToken(asks(stand, 8), 2), code(impl.None), nil},
	})
}

func TestLatchesOfAHubByHand(t *testing.T) {
	latch := func(i int, l impl.Latch) func(h *impl.Hub) { return func(h *impl.Hub) { h.Latches[i] = l } }
	down, stand := impl.OpDown, impl.OpLatch
	checkCases(t, handHub(), doOf, []hubCase{
		{0, asksWith(down, 1, 2), impl.Reply{}, latch(1, impl.Latch{Count: 1, Line: []int{1, 2}, Grants: []int{3}})},
		{0, asksWith(down, 1, 3), impl.Reply{N: 2}, latch(1, impl.Latch{Grants: []int{3, 1, 2}})},
		{0, asksWith(down, 4, most), impl.Reply{}, latch(4, impl.Latch{})},
		{0, asksWith(down, 3, 1), impl.Reply{}, latch(3, impl.Latch{Count: 1, Line: upTo(6, 32), Grants: upTo(38, 26)})},
		{0, asksWith(down, 1, 4), code(impl.Over), nil}, {0, asksWith(down, 0, 1), code(impl.Over), nil}, {0, asksWith(down, 4, math.MaxInt), code(impl.Over), nil},
		{0, asksWith(down, 1, 0), code(impl.Bad), nil}, {0, asksWith(down, 0, -1), code(impl.Bad), nil}, {0, asksWith(down, 1, math.MinInt), code(impl.Bad), nil}, {0, asksWith(down, 3, 2), code(impl.Full), nil},
		{0, asksWith(down, 5, 1), code(impl.None), nil}, {0, asksWith(down, -1, 1), code(impl.None), nil}, {0, asksWith(down, 5, 0), code(impl.None), nil},
		{0, asks(stand, 0), impl.Reply{}, nil}, {0, asks(stand, 2), impl.Reply{}, nil}, {4, asks(stand, 2), code(impl.There), nil}, {1, asks(stand, 1), code(impl.There), nil}, {3, asks(stand, 1), code(impl.There), nil},
		{0, asks(stand, 1), code(impl.Waits), latch(1, impl.Latch{Count: 3, Line: []int{1, 2, 0}, Grants: []int{3}})},
		{0, asks(stand, 3), code(impl.Full), nil}, {0, asks(stand, 5), code(impl.None), nil}, {0, asks(stand, -1), code(impl.None), nil},
		{0, byToken(asks(stand, 0), 4), impl.Reply{}, nil}, {0, byToken(asks(stand, 0), 2), code(impl.Off), nil}, {1, byToken(asks(stand, 1), 2), code(impl.Off), nil}, {0, byToken(asks(stand, 0), 5), code(impl.None), nil}, {0, byToken(asks(stand, 5), 2), code(impl.None), nil},
	})
}

func TestCellsOfAHubByHand(t *testing.T) {
	cell := func(i int, c impl.Cell) func(h *impl.Hub) { return func(h *impl.Hub) { h.Cells[i] = c } }
	sees := func(who int, i int, version int) func(h *impl.Hub) {
		return func(h *impl.Hub) { h.Users[who].Seen[i] = version }
	}
	look, watch, shut := impl.OpLook, impl.OpWatch, impl.OpShut
	checkCases(t, handHub(), doOf, []hubCase{
		{0, changes(0, add(4)), impl.Reply{}, cell(0, openCell(num(11), 1, nil, nil))},
		{0, changes(0, put(text("x"))), impl.Reply{}, cell(0, openCell(text("x"), 1, nil, nil))},
		{0, changes(0, mostOf(num(3))), impl.Reply{}, cell(0, openCell(num(7), 1, nil, nil))},
		{0, changes(1, joinOn("c")), impl.Reply{N: 2}, cell(1, openCell(text("abc"), 6, nil, []int{3, 1, 2}))},
		{0, changes(0, joinOn("c")), code(impl.Bad), nil}, {0, changes(1, add(1)), code(impl.Bad), nil}, {0, changes(0, add(999999999)), code(impl.Bad), nil},
		{0, changes(2, add(1)), code(impl.Over), nil}, {0, changes(2, joinOn("a")), code(impl.Over), nil}, {0, changes(3, add(1)), code(impl.Full), nil}, {0, changes(4, add(1)), code(impl.Full), nil}, {0, changes(4, joinOn("a")), code(impl.Bad), nil},
		{0, changes(5, add(1)), code(impl.None), nil}, {0, changes(-1, add(1)), code(impl.None), nil},
		{0, asks(look, 0), impl.Reply{Msg: num(7)}, sees(0, 0, 0)}, {1, asks(look, 0), impl.Reply{Msg: num(7)}, nil}, {0, asks(look, 1), impl.Reply{N: 5, Msg: text("ab")}, sees(0, 1, 5)}, {3, asks(look, 1), impl.Reply{N: 5, Msg: text("ab")}, nil},
		{0, asks(look, 2), impl.Reply{Code: impl.Over, N: 4, Msg: num(9)}, sees(0, 2, 4)}, {4, asks(look, 2), impl.Reply{Code: impl.Over, N: 4, Msg: num(9)}, nil}, {5, asks(look, 3), impl.Reply{N: most, Msg: num(1)}, nil}, {0, asks(look, 5), code(impl.None), nil}, {0, asks(look, -1), code(impl.None), nil},
		{0, asks(watch, 0), impl.Reply{Msg: num(7)}, sees(0, 0, 0)}, {1, asks(watch, 0), code(impl.Waits), cell(0, openCell(num(7), 0, []int{1}, nil))},
		{0, asks(watch, 1), impl.Reply{N: 5, Msg: text("ab")}, sees(0, 1, 5)}, {5, asks(watch, 1), code(impl.Waits), cell(1, openCell(text("ab"), 5, []int{1, 2, 5}, []int{3}))}, {1, asks(watch, 1), code(impl.There), nil}, {3, asks(watch, 1), code(impl.There), nil},
		// Who has not seen the last value of a cell that is shut is told it with Done, and who has with Over.
		{0, asks(watch, 2), impl.Reply{N: 4, Msg: num(9)}, sees(0, 2, 4)}, {1, asks(watch, 2), impl.Reply{Code: impl.Over, N: 4, Msg: num(9)}, nil}, {4, asks(watch, 2), code(impl.There), nil},
		{0, asks(watch, 3), code(impl.Waits), cell(3, openCell(num(1), most, []int{0}, nil))}, {0, asks(watch, 4), code(impl.Full), nil}, {0, asks(watch, 5), code(impl.None), nil}, {0, asks(watch, -1), code(impl.None), nil},
		{0, byToken(asks(watch, 1), 0), impl.Reply{N: 5, Msg: text("ab")}, sees(0, 1, 5)}, {0, byToken(asks(watch, 1), 2), code(impl.Off), nil}, {1, byToken(asks(watch, 1), 3), code(impl.Off), nil}, {0, byToken(asks(watch, 1), 5), code(impl.None), nil}, {0, byToken(asks(watch, 5), 2), code(impl.None), nil},
		{0, asks(shut, 0), impl.Reply{}, cell(0, shutCell(num(7), 0, nil, nil))}, {0, asks(shut, 1), impl.Reply{N: 2}, cell(1, shutCell(text("ab"), 5, nil, []int{3, 1, 2}))},
		{0, asks(shut, 2), code(impl.Over), nil}, {0, asks(shut, 3), code(impl.Full), nil}, {0, asks(shut, 4), code(impl.Full), nil}, {0, asks(shut, 5), code(impl.None), nil}, {0, asks(shut, -1), code(impl.None), nil},
	})
}

// TestSeenMoreThanThereIs: whoever is told a Version has Seen just that.
func TestSeenMoreThanThereIs(t *testing.T) {
	h := handHub()
	h.Users[1].Seen = []int{9, 9, 9, 9, 9}
	sees := func(i int, version int) func(h *impl.Hub) {
		return func(h *impl.Hub) { h.Users[1].Seen[i] = version }
	}
	checkCases(t, h, doOf, []hubCase{
		{1, asks(impl.OpLook, 0), impl.Reply{Msg: num(7)}, sees(0, 0)},
		{1, asks(impl.OpLook, 2), impl.Reply{Code: impl.Over, N: 4, Msg: num(9)}, sees(2, 4)},
		{1, asks(impl.OpWatch, 2), impl.Reply{Code: impl.Over, N: 4, Msg: num(9)}, sees(2, 4)},
		{1, asks(impl.OpWatch, 0), code(impl.Waits), func(h *impl.Hub) { h.Cells[0].Line = []int{1} }},
	})
}

// withSub is handRing with another Sub at the place of one of its own.
func withSub(place int, s impl.Sub) impl.Ring {
	r := handRing()
	r.Subs[place] = s
	return r
}

func ringIs(i int, r impl.Ring) func(h *impl.Hub) { return func(h *impl.Hub) { h.Topics[i].Ring = r } }

func TestSubscriptionsOfAHubByHand(t *testing.T) {
	numbers := allOf(bare(2))
	withOne := func(r impl.Ring, s impl.Sub) impl.Ring {
		r.Subs, r.Next = append(r.Subs, s), s.Id+1
		return r
	}
	sub := func(who int, topic int, r impl.Ring, id int) func(h *impl.Hub) {
		return func(h *impl.Hub) {
			h.Topics[topic].Ring = r
			h.Users[who].Subs = append(h.Users[who].Subs, impl.Hit{Topic: topic, Id: id})
		}
	}
	checkCases(t, handHub(), doOf, []hubCase{
		{0, subscribes(0, 0, nil), impl.Reply{N: 6}, sub(0, 0, withOne(handRing(), fresh(9, 6)), 9)},
		{1, subscribes(0, 1, nil), impl.Reply{N: 1}, sub(1, 0, withOne(handRing(), fresh(9, 4)), 9)},
		{1, subscribes(0, 1, numbers), impl.Reply{N: 1}, sub(1, 0, withOne(handRing(), fresh(9, 4, bare(2))), 9)},
		{4, subscribes(5, 1, []impl.Term{}), impl.Reply{N: 1}, sub(4, 5, keeps(1, 0, nil, 1, fresh(0, 0)), 0)},
		{0, subscribes(1, 0, nil), code(impl.Over), nil}, {0, subscribes(2, 0, nil), code(impl.Full), nil}, {0, subscribes(6, 0, nil), code(impl.None), nil}, {0, subscribes(-1, 1, nil), code(impl.None), nil},
		// The client's own list is looked at ahead of the topic, but behind whether that is there.
		{5, subscribes(0, 0, nil), code(impl.Full), nil}, {5, subscribes(1, 0, nil), code(impl.Full), nil}, {5, subscribes(2, 1, numbers), code(impl.Full), nil}, {5, subscribes(6, 0, nil), code(impl.None), nil}, {5, subscribes(-1, 0, nil), code(impl.None), nil},
		{0, takes(impl.OpUnsub, 2), impl.Reply{}, ringIs(1, closedRing(keeps(2, 6, nums(15, 16), 3, fresh(2, 4, bare(3)))))},
		{1, takes(impl.OpUnsub, 0), impl.Reply{}, func(h *impl.Hub) {
			h.Topics[0].Ring.Subs = slices.Delete(h.Topics[0].Ring.Subs, 3, 4)
			h.Topics[0].Ring.Line = nil
		}},
		{2, takes(impl.OpUnsub, 0), impl.Reply{}, func(h *impl.Hub) {
			h.Topics[0].Ring.Subs = slices.Delete(h.Topics[0].Ring.Subs, 4, 5)
			h.Topics[0].Ring.Grants = []int{7}
		}},
		{0, takes(impl.OpUnsub, 4), code(impl.None), nil}, {0, takes(impl.OpUnsub, 5), code(impl.None), nil}, {5, takes(impl.OpUnsub, 11), code(impl.None), nil},
		{0, takes(impl.OpUnsub, 6), code(impl.None), nil}, {0, takes(impl.OpUnsub, -1), code(impl.None), nil}, {5, takes(impl.OpUnsub, 12), code(impl.None), nil}, {0, takes(impl.OpUnsub, math.MaxInt), code(impl.None), nil},
	})
}

func TestReadingAtAHubByHand(t *testing.T) {
	recv := func(place int) impl.Call { return takes(impl.OpRecv, place) }
	gotOne := withSub(1, impl.Sub{Id: 2, Start: 4, Cursor: 5, Got: 1})
	lostThree := withSub(2, impl.Sub{Id: 3, Start: 1, Cursor: 4, Lost: 3})
	passed := withSub(5, impl.Sub{Id: 6, Start: 4, Cursor: 6, Passed: 2, Filter: allOf(bare(3))})
	passed.Line = []int{4, 6}
	closed := closedRing(keeps(2, 6, nil, 3, fresh(1, 6), impl.Sub{Id: 2, Start: 4, Cursor: 6, Passed: 2, Filter: allOf(bare(3))}))
	checkCases(t, handHub(), doOf, []hubCase{
		{0, recv(0), impl.Reply{N: 4, Msg: num(15)}, ringIs(0, gotOne)},
		{0, recv(1), impl.Reply{M: 3}, ringIs(0, lostThree)},
		{0, recv(2), code(impl.Over), nil},
		{0, recv(3), code(impl.Over), ringIs(1, closed)},
		{3, recv(1), code(impl.Waits), ringIs(0, passed)},
		{1, recv(0), code(impl.There), nil}, {2, recv(0), code(impl.There), nil}, {4, recv(0), code(impl.There), nil},
		{0, recv(4), code(impl.None), nil}, {0, recv(5), code(impl.None), nil}, {5, recv(0), code(impl.None), nil}, {5, recv(11), code(impl.None), nil},
		{0, recv(6), code(impl.None), nil}, {0, recv(-1), code(impl.None), nil}, {5, recv(12), code(impl.None), nil}, {0, recv(math.MaxInt), code(impl.None), nil}, {0, recv(math.MinInt), code(impl.None), nil},
		{0, byToken(recv(0), 4), impl.Reply{N: 4, Msg: num(15)}, ringIs(0, gotOne)},
		{0, byToken(recv(0), 2), code(impl.Off), nil}, {1, byToken(recv(0), 3), code(impl.Off), nil}, {0, byToken(recv(0), 5), code(impl.None), nil}, {0, byToken(recv(6), 2), code(impl.None), nil},
		// The place is there, so that the token is looked at ahead of the subscription that is gone.
		{0, byToken(recv(4), 2), code(impl.Off), nil}, {0, byToken(recv(4), 0), code(impl.None), nil},
	})
}

func TestTopicsOfAHubByHand(t *testing.T) {
	with := func(r impl.Ring, items []impl.Msg, line []int, grants []int) impl.Ring {
		r.Items, r.Sent, r.Line, r.Grants = items, r.Sent+1, line, grants
		return r
	}
	taken := with(handRing(), nums(16, 8), nil, []int{5, 7, 4})
	into := fiveMoved()
	into.Items = nums(8)
	one, many := keeps(1, 1, nil, 0), handHub().Topics[2].Ring
	many.Items, many.Sent = nums(8), 4
	closed := handRing()
	closed.Closed, closed.Line, closed.Grants = true, nil, []int{5, 7, 4}
	checkCases(t, handHub(), doOf, []hubCase{
		{0, publishes("a", num(8)), impl.Reply{N: 1, M: 1}, ringIs(0, taken)},
		{4, publishes("into", num(8)), impl.Reply{N: 1, M: 1}, ringIs(3, into)},
		{4, publishes("n", num(8)), impl.Reply{N: 1}, ringIs(5, one)},
		{0, publishes("b", num(8)), impl.Reply{N: 1}, ringIs(2, many)},
		{0, publishes("*", num(8)), impl.Reply{N: 4, M: 2}, func(h *impl.Hub) {
			h.Topics[0].Ring, h.Topics[2].Ring, h.Topics[3].Ring, h.Topics[5].Ring = taken, many, into, one
		}},
		{0, publishes("a.*", num(8)), code(impl.Over), nil}, {0, publishes("c", num(8)), code(impl.Over), nil}, {0, publishes("a.b", text("x")), code(impl.Over), nil},
		{0, publishes("d", num(8)), code(impl.None), nil}, {0, publishes("n.>", num(8)), code(impl.None), nil},
		{0, asks(impl.OpClose, 0), impl.Reply{N: 1}, ringIs(0, closed)},
		{0, asks(impl.OpClose, 5), impl.Reply{}, ringIs(5, closedRing(keeps(1, 0, nil, 0)))},
		{0, asks(impl.OpClose, 1), code(impl.Over), nil}, {0, asks(impl.OpClose, 6), code(impl.None), nil}, {0, asks(impl.OpClose, -1), code(impl.None), nil},
	})
}

func TestTokensAndTimersOfAHubByHand(t *testing.T) {
	off := func(list ...int) func(h *impl.Hub) {
		return func(h *impl.Hub) { h.Tokens = tokens([]int{-1, 0, -1, 2, 1}, append(list, 2, 3)...) }
	}
	timers := func(pairs ...[2]int) func(h *impl.Hub) { return func(h *impl.Hub) { h.Clock = clock(10, pairs...) } }
	old := func(pair [2]int) func(h *impl.Hub) {
		return timers([2]int{15, 1}, [2]int{15, 0}, [2]int{20, 4}, pair)
	}
	timer := func(in int, token int) impl.Call { return asksWith(impl.OpTimer, in, token) }
	checkCases(t, handHub(), doOf, []hubCase{
		{0, asks(impl.OpCancel, 0), impl.Reply{N: 3}, off(0, 1, 4)}, {0, asks(impl.OpCancel, 1), impl.Reply{N: 2}, off(1, 4)}, {0, asks(impl.OpCancel, 4), impl.Reply{N: 1}, off(4)}, {0, asks(impl.OpCancel, 2), impl.Reply{}, nil}, {0, asks(impl.OpCancel, 3), impl.Reply{}, nil},
		{0, asks(impl.OpCancel, 5), code(impl.None), nil}, {0, asks(impl.OpCancel, -1), code(impl.None), nil}, {0, asks(impl.OpCancel, math.MinInt), code(impl.None), nil},
		{0, timer(5, 4), impl.Reply{}, timers([2]int{15, 1}, [2]int{15, 0}, [2]int{15, 4}, [2]int{20, 4})}, {0, timer(1, 0), impl.Reply{}, timers([2]int{11, 0}, [2]int{15, 1}, [2]int{15, 0}, [2]int{20, 4})},
		{0, timer(most-10, 1), impl.Reply{}, old([2]int{most, 1})}, {0, timer(99, 2), impl.Reply{}, old([2]int{109, 2})},
		{0, timer(0, 0), code(impl.Bad), nil}, {0, timer(-1, 0), code(impl.Bad), nil}, {0, timer(most-9, 0), code(impl.Bad), nil}, {0, timer(math.MaxInt, 0), code(impl.Bad), nil},
		{0, timer(5, 5), code(impl.None), nil}, {0, timer(5, -1), code(impl.None), nil}, {0, timer(5, 24), code(impl.None), nil}, {0, timer(5, math.MaxInt), code(impl.None), nil}, {0, timer(0, 5), code(impl.None), nil},
	})
	full := handHub()
	full.Clock = row(10, 20, 1, 40)
	checkCases(t, full, doOf, []hubCase{{0, timer(5, 0), code(impl.Full), nil}, {0, timer(0, 0), code(impl.Bad), nil}, {0, timer(5, 5), code(impl.None), nil}})
}

func TestEndByHand(t *testing.T) {
	await, stand, latch, watch := impl.OpAwait, impl.OpStand, impl.OpLatch, impl.OpWatch
	recv := func(place int) impl.Call { return takes(impl.OpRecv, place) }
	h := handHub()
	h.Cells[2].Grants = []int{4, 0}
	gone := withSub(4, impl.Sub{Id: 5, Start: 4, Cursor: 5, Got: 1})
	gone.Grants = []int{7}
	again := waitedFor(handRing(), []int{4, 7}, []int{5})
	checkCases(t, h, endOf, []hubCase{
		{3, asks(await, 2), impl.Reply{}, func(h *impl.Hub) { h.Notes[2].Grants, h.Notes[2].Taken = byAll(4), 1 }},
		{4, asks(await, 2), impl.Reply{}, func(h *impl.Hub) { h.Notes[2].Grants = byOne(3) }},
		{1, asks(await, 2), code(impl.Waits), nil}, {0, asks(await, 2), code(impl.None), nil}, {0, asks(await, 1), code(impl.None), nil}, {3, asks(await, 8), code(impl.None), nil}, {3, asks(await, -1), code(impl.None), nil},
		{3, asks(stand, 2), impl.Reply{}, func(h *impl.Hub) { h.Events[2].Grants, h.Events[2].Taken = nil, 1 }},
		{3, asks(stand, 5), impl.Reply{}, func(h *impl.Hub) { h.Events[5].Grants = nil }}, {4, asks(stand, 6), impl.Reply{}, func(h *impl.Hub) { h.Events[6].Grants = nil }},
		{1, asks(stand, 2), code(impl.Waits), nil}, {2, asks(stand, 5), code(impl.Waits), nil}, {0, asks(stand, 1), code(impl.None), nil}, {0, asks(stand, 8), code(impl.None), nil},
		{3, asks(latch, 1), impl.Reply{}, func(h *impl.Hub) { h.Latches[1].Grants = nil }}, {3, asks(latch, 2), impl.Reply{}, func(h *impl.Hub) { h.Latches[2].Grants = []int{4} }},
		{1, asks(latch, 1), code(impl.Waits), nil}, {0, asks(latch, 0), code(impl.None), nil}, {3, asks(latch, 5), code(impl.None), nil},
		{3, asks(watch, 1), impl.Reply{N: 5, Msg: text("ab")}, func(h *impl.Hub) { h.Cells[1].Grants = nil }},
		{4, asks(watch, 2), impl.Reply{Code: impl.Over, N: 4, Msg: num(9)}, func(h *impl.Hub) { h.Cells[2].Grants = []int{0} }},
		{0, asks(watch, 2), impl.Reply{Code: impl.Over, N: 4, Msg: num(9)}, func(h *impl.Hub) { h.Cells[2].Grants, h.Users[0].Seen[2] = []int{4}, 4 }},
		{1, asks(watch, 1), code(impl.Waits), nil}, {0, asks(watch, 1), code(impl.None), nil}, {3, asks(watch, 5), code(impl.None), nil},
		{2, recv(0), impl.Reply{N: 4, Msg: num(15)}, ringIs(0, gone)},
		{4, recv(0), code(impl.Waits), ringIs(0, again)},
		{1, recv(0), code(impl.Waits), nil}, {0, recv(0), code(impl.None), nil}, {0, recv(4), code(impl.None), nil}, {0, recv(6), code(impl.None), nil}, {0, recv(-1), code(impl.None), nil}, {2, recv(1), code(impl.None), nil},
		// Whether the token is off is not looked at any more, but whether it is there.
		{3, byToken(asks(await, 2), 2), impl.Reply{}, func(h *impl.Hub) { h.Notes[2].Grants, h.Notes[2].Taken = byAll(4), 1 }},
		{2, byToken(recv(0), 3), impl.Reply{N: 4, Msg: num(15)}, ringIs(0, gone)},
		{3, byToken(asks(await, 2), 5), code(impl.None), nil}, {2, byToken(recv(0), 5), code(impl.None), nil}, {1, byToken(asks(stand, 2), 5), code(impl.None), nil},
	})
}

func TestAbortByHand(t *testing.T) {
	await, stand, latch, watch := impl.OpAwait, impl.OpStand, impl.OpLatch, impl.OpWatch
	recv := func(place int) impl.Call { return takes(impl.OpRecv, place) }
	passedOn := impl.Reply{Code: impl.Off, N: 1}
	h := handHub()
	h.Events[1] = impl.Event{Auto: true, Up: true, Grants: []int{3}, Sets: 2}
	h.Events[0] = impl.Event{Auto: true, Grants: []int{0}, Sets: 1}
	h.Notes[0] = impl.Notify{Grants: byOne(2), Ones: 1}
	checkCases(t, h, abortOf, []hubCase{
		{1, asks(await, 2), code(impl.Off), func(h *impl.Hub) { h.Notes[2].Line = []int{2} }},
		{3, asks(await, 2), passedOn, func(h *impl.Hub) { h.Notes[2].Line, h.Notes[2].Grants = []int{2}, append(byAll(4), byOne(1)...) }},
		{4, asks(await, 2), code(impl.Off), func(h *impl.Hub) { h.Notes[2].Grants = byOne(3) }},
		{2, asks(await, 0), code(impl.Off), func(h *impl.Hub) { h.Notes[0] = impl.Notify{Permit: true, Ones: 1} }},
		{3, asks(await, 6), code(impl.Off), func(h *impl.Hub) { h.Notes[6] = impl.Notify{Permit: true, Ones: 4, Spilt: 1, Taken: 2} }},
		{0, asks(await, 7), code(impl.Off), func(h *impl.Hub) { h.Notes[7].Grants = nil }},
		{0, asks(await, 2), code(impl.None), nil}, {0, asks(await, 1), code(impl.None), nil}, {3, asks(await, 8), code(impl.None), nil}, {3, asks(await, -1), code(impl.None), nil},
		{1, asks(stand, 2), code(impl.Off), func(h *impl.Hub) { h.Events[2].Line = []int{2} }},
		{3, asks(stand, 2), passedOn, func(h *impl.Hub) { h.Events[2].Line, h.Events[2].Grants = []int{2}, []int{1} }},
		{0, asks(stand, 0), code(impl.Off), func(h *impl.Hub) { h.Events[0] = impl.Event{Auto: true, Up: true, Sets: 1} }},
		{3, asks(stand, 1), code(impl.Off), func(h *impl.Hub) { h.Events[1] = impl.Event{Auto: true, Up: true, Sets: 2, Spilt: 1} }},
		{3, asks(stand, 5), code(impl.Off), func(h *impl.Hub) { h.Events[5].Grants = nil }}, {2, asks(stand, 5), code(impl.Off), func(h *impl.Hub) { h.Events[5].Line = []int{1} }},
		{0, asks(stand, 2), code(impl.None), nil}, {0, asks(stand, 8), code(impl.None), nil},
		{1, asks(latch, 1), code(impl.Off), func(h *impl.Hub) { h.Latches[1].Line = []int{2} }}, {4, asks(latch, 2), code(impl.Off), func(h *impl.Hub) { h.Latches[2].Grants = []int{3} }}, {0, asks(latch, 1), code(impl.None), nil}, {1, asks(latch, -1), code(impl.None), nil},
		{2, asks(watch, 1), code(impl.Off), func(h *impl.Hub) { h.Cells[1].Line = []int{1} }}, {3, asks(watch, 1), code(impl.Off), func(h *impl.Hub) { h.Cells[1].Grants = nil }}, {4, asks(watch, 2), code(impl.Off), func(h *impl.Hub) { h.Cells[2].Grants = nil }}, {0, asks(watch, 1), code(impl.None), nil}, {0, asks(watch, 5), code(impl.None), nil},
		{1, recv(0), code(impl.Off), ringIs(0, waitedFor(handRing(), nil, []int{5, 7}))}, {2, recv(0), code(impl.Off), ringIs(0, waitedFor(handRing(), []int{4}, []int{7}))}, {4, recv(0), code(impl.Off), ringIs(0, waitedFor(handRing(), []int{4}, []int{5}))},
		{0, recv(0), code(impl.None), nil}, {0, recv(4), code(impl.None), nil}, {0, recv(6), code(impl.None), nil}, {0, recv(-1), code(impl.None), nil},
		{3, byToken(asks(await, 2), 3), passedOn, func(h *impl.Hub) { h.Notes[2].Line, h.Notes[2].Grants = []int{2}, append(byAll(4), byOne(1)...) }},
		{3, byToken(asks(await, 2), 5), code(impl.None), nil}, {1, byToken(recv(0), 5), code(impl.None), nil},
	})
}

func TestFreeByHand(t *testing.T) {
	h := handHub()
	free := []struct {
		who int
		c   impl.Call
	}{
		{3, asks(impl.OpAwait, 2)}, {4, asks(impl.OpAwait, 2)}, {3, asks(impl.OpAwait, 6)}, {0, asks(impl.OpAwait, 7)}, {3, asks(impl.OpStand, 2)}, {3, asks(impl.OpStand, 5)}, {4, asks(impl.OpStand, 6)},
		{3, asks(impl.OpLatch, 1)}, {3, asks(impl.OpLatch, 2)}, {4, asks(impl.OpLatch, 2)}, {3, asks(impl.OpWatch, 1)}, {4, asks(impl.OpWatch, 2)}, {2, takes(impl.OpRecv, 0)}, {4, takes(impl.OpRecv, 0)},
	}
	is := func(who int, c impl.Call) bool {
		return slices.ContainsFunc(free, func(x struct {
			who int
			c   impl.Call
		}) bool {
			return x.who == who && x.c.Op == c.Op && x.c.A == c.A && x.c.B == c.B
		})
	}
	for _, who := range append(upTo(-1, 8), math.MinInt, 38, 63, 64, math.MaxInt) {
		for op := 0; op <= 20; op++ {
			for n := -1; n <= 8; n++ {
				c := asks(op, n)
				if op == impl.OpRecv || op == impl.OpUnsub {
					c = takes(op, n)
				}
				for _, tok := range []int{-1, 0, 2} {
					if got := impl.Free(h, who, byToken(c, tok)); got != is(who, c) {
						t.Error("free", who, c, tok, got)
					}
				}
				// What can't go on is not free.
				for _, tok := range []int{-2, 5, math.MaxInt} {
					if impl.Free(h, who, byToken(c, tok)) {
						t.Error("free", who, c, tok)
					}
				}
			}
		}
	}
	for _, x := range free {
		for i, c := range spoiltCalls(x.c) {
			if impl.Free(h, x.who, c) {
				t.Error("free", i, x.who, c)
			}
		}
	}
}

// spoiltCalls are not CallOk, by a field that the op of a call that may block does not name.
func spoiltCalls(c impl.Call) []impl.Call {
	var list []impl.Call
	spoil := func(change func(c *impl.Call)) {
		x := c
		change(&x)
		list = append(list, x)
	}
	spoil(func(c *impl.Call) { c.Tok = -2 })
	spoil(func(c *impl.Call) { c.Name = "a" })
	spoil(func(c *impl.Call) { c.Msg = num(0) })
	spoil(func(c *impl.Call) { c.Msg.Num = 1 })
	spoil(func(c *impl.Call) { c.Filter = allOf(bare(1)) })
	if c.Op == impl.OpRecv {
		spoil(func(c *impl.Call) { c.A = 1 })
	} else {
		spoil(func(c *impl.Call) { c.B = 1 })
	}
	return list
}

// TestWhatIsLookedAtFirst has several reasons to refuse, and the code written out.
func TestWhatIsLookedAtFirst(t *testing.T) {
	h := handHub()
	wrong := cloneHub(h)
	wrong.Notes[7].Spilt = 9
	for i, x := range []struct {
		h                 impl.Hub
		who               int
		c                 impl.Call
		does, ends, quits int
	}{
		{wrong, 3, asks(impl.OpAwait, 2), impl.Bad, impl.Bad, impl.Bad}, {wrong, 3, asks(impl.OpAwait, 9), impl.Bad, impl.Bad, impl.Bad}, {wrong, 3, byToken(asks(impl.OpAwait, 2), 2), impl.Bad, impl.Bad, impl.Bad}, {wrong, -1, impl.Call{}, impl.Bad, impl.Bad, impl.Bad},
		{h, -1, asks(impl.OpAwait, 2), impl.Bad, impl.Bad, impl.Bad}, {h, 6, asks(impl.OpAwait, 9), impl.Bad, impl.Bad, impl.Bad}, {h, 6, byToken(asks(impl.OpAwait, 4), 2), impl.Bad, impl.Bad, impl.Bad}, {h, 40, asks(impl.OpAwait, 4), impl.Bad, impl.Bad, impl.Bad}, {h, 64, asks(impl.OpTell, 0), impl.Bad, impl.Bad, impl.Bad}, {h, math.MinInt, takes(impl.OpRecv, 0), impl.Bad, impl.Bad, impl.Bad}, {h, math.MaxInt, takes(impl.OpRecv, 0), impl.Bad, impl.Bad, impl.Bad},
		{h, 3, byToken(asks(impl.OpAwait, 2), -2), impl.Bad, impl.Bad, impl.Bad}, {h, 3, byToken(asks(impl.OpAwait, 9), math.MinInt), impl.Bad, impl.Bad, impl.Bad}, {h, 3, asksWith(impl.OpAwait, 9, 1), impl.Bad, impl.Bad, impl.Bad}, {h, 3, impl.Call{Op: impl.OpAwait, A: 2, Tok: 2, Name: "a"}, impl.Bad, impl.Bad, impl.Bad},
		{h, 0, byToken(asks(impl.OpTell, 0), 0), impl.Bad, impl.Bad, impl.Bad}, {h, 0, byToken(asks(impl.OpTell, 9), 2), impl.Bad, impl.Bad, impl.Bad}, {h, 0, impl.Call{Op: impl.OpTell}, impl.Bad, impl.Bad, impl.Bad},
		// That a call does not block is looked at ahead of whether what it names is there.
		{h, 0, asks(impl.OpTell, 0), impl.Done, impl.Bad, impl.Bad}, {h, 0, asks(impl.OpTell, 9), impl.None, impl.Bad, impl.Bad}, {h, 0, takes(impl.OpUnsub, 9), impl.None, impl.Bad, impl.Bad}, {h, 0, publishes("d", num(1)), impl.None, impl.Bad, impl.Bad}, {h, 0, asks(impl.OpLook, -1), impl.None, impl.Bad, impl.Bad}, {h, 0, asksWith(impl.OpTimer, 0, 9), impl.None, impl.Bad, impl.Bad},
		// None is ahead of Off, and Off ahead of what is asked.
		{h, 3, byToken(asks(impl.OpAwait, 9), 2), impl.None, impl.None, impl.None}, {h, 3, byToken(asks(impl.OpAwait, 2), 5), impl.None, impl.None, impl.None}, {h, 3, byToken(asks(impl.OpAwait, 2), 2), impl.Off, impl.Done, impl.Off}, {h, 1, byToken(asks(impl.OpAwait, 2), 3), impl.Off, impl.Waits, impl.Off}, {h, 0, byToken(asks(impl.OpAwait, 4), 3), impl.Off, impl.None, impl.None},
		{h, 0, byToken(takes(impl.OpRecv, 4), 3), impl.Off, impl.None, impl.None}, {h, 0, byToken(takes(impl.OpRecv, 6), 3), impl.None, impl.None, impl.None}, {h, 4, byToken(takes(impl.OpRecv, 0), 3), impl.Off, impl.Waits, impl.Off},
	} {
		for j, a := range []hubAnswer{doOf(x.h, x.who, x.c), endOf(x.h, x.who, x.c), abortOf(x.h, x.who, x.c)} {
			if want := []int{x.does, x.ends, x.quits}[j]; a.r.Code != want {
				t.Error("code", i, j, a.r, want)
			}
		}
	}
}

func TestHubOkByHand(t *testing.T) {
	for i, change := range []func(h *impl.Hub){
		func(h *impl.Hub) {}, func(h *impl.Hub) { *h = impl.Hub{} }, func(h *impl.Hub) { h.Users = nil }, func(h *impl.Hub) { h.Users = slices.Repeat(h.Users[:1], 64) },
		// What stands there for clients and tokens does not have to be there.
		func(h *impl.Hub) { h.Tokens = impl.Tokens{} }, func(h *impl.Hub) { h.Tokens = tokens(apart(24)) }, func(h *impl.Hub) { h.Clock = row(10, 11, 0, 40) }, func(h *impl.Hub) { h.Users[0].Subs[0].Id = -5 }, func(h *impl.Hub) { h.Users[0].Seen = []int{math.MinInt, -1, most + 1, math.MaxInt, 0} },
		func(h *impl.Hub) { h.Users[0].Subs = slices.Repeat(hits([2]int{5, 7}), 12) }, func(h *impl.Hub) { h.Users[1].Subs = h.Users[0].Subs },
		func(h *impl.Hub) { h.Latches = append(h.Latches, make([]impl.Latch, 3)...) }, func(h *impl.Hub) { h.Merges = slices.Repeat(h.Merges[1:], 4) }, func(h *impl.Hub) { h.Merges = nil },
		func(h *impl.Hub) {
			h.Cells = append(h.Cells, h.Cells[:3]...)
			h.Users = users(2, 0, 0, 0, 0, 0, 0, 0, 0)
		},
		func(h *impl.Hub) {
			for i := range 6 {
				h.Topics = append(h.Topics, topic(string(rune('p'+i)), keeps(1, 0, nil, 0)))
			}
			h.Users[0].Subs = hits([2]int{11, 0}, [2]int{0, 0})
		},
	} {
		h := handHub()
		change(&h)
		if !impl.HubOk(h) {
			t.Error("not right", i, brief(h))
		}
	}
	for i, h := range wrongHubs() {
		if impl.HubOk(h) {
			t.Error("right", i, brief(h))
		}
	}
}

func TestCallOkByHand(t *testing.T) {
	long := strings.Repeat("a", 24)
	for i, c := range []impl.Call{
		asks(1, 0), asks(2, 0), asks(3, 0), asks(4, 0), asks(5, 0), asks(6, 0), asks(7, 0), asks(8, 0), changes(0, add(0)), asks(10, 0), asks(11, 0), asks(12, 0), publishes("a", num(0)), asks(14, 0), asks(15, 0), asks(16, 0), asks(17, 0), asks(18, 0), asks(19, 0),
		// Whether a thing is there can't be seen without a hub.
		asks(1, -1), asks(3, math.MinInt), asks(12, math.MaxInt), asks(18, 99), byToken(asks(3, 5), 0), byToken(asks(6, 5), 99), byToken(asks(8, 0), math.MaxInt), byToken(asks(11, 0), 23), byToken(takes(15, 0), 3), takes(15, -7), takes(16, math.MaxInt),
		asksWith(7, 0, -1), asksWith(7, 0, math.MaxInt), asksWith(19, -5, -5), asksWith(19, math.MaxInt, math.MinInt), asksWith(14, 3, 0), asksWith(14, 3, 1), subscribes(0, 1, nots(12)), subscribes(0, 0, []impl.Term{}),
		changes(0, put(text(""))), changes(-4, joinOn("a")), changes(9, mostOf(num(-999999999))), changes(0, impl.Change{Kind: impl.AddIt, Msg: text("a")}), publishes(">", text("")), publishes("*.a.>", num(1)), publishes(long, num(1)),
	} {
		if !impl.CallOk(c) {
			t.Error("not right", i, c)
		}
	}
	wrong := []impl.Call{
		{}, {Tok: -1}, {Op: 20, Tok: -1}, {Op: -1, Tok: -1}, {Op: math.MinInt, Tok: -1}, {Op: math.MaxInt, Tok: -1}, {Op: 1<<32 + 1, Tok: -1}, {Op: 257, Tok: -1}, {Op: 1}, {Op: 19},
		byToken(asks(3, 0), -2), byToken(asks(6, 0), -2), byToken(asks(8, 0), math.MinInt), byToken(asks(11, 0), -3), byToken(takes(15, 0), -2),
		asksWith(14, 0, 2), asksWith(14, 0, -1), asksWith(14, 0, math.MaxInt), subscribes(0, 0, allOf(bare(0))), subscribes(0, 1, allOf(bare(8))), subscribes(0, 1, nots(13)), subscribes(0, 2, nots(12)),
		changes(0, impl.Change{Kind: 0, Msg: num(1)}), changes(0, impl.Change{Kind: 5, Msg: num(1)}), changes(0, impl.Change{Kind: -1, Msg: num(1)}), changes(0, put(impl.Msg{})), changes(0, put(num(1000000000))), changes(0, put(text("\""))),
		publishes("", num(1)), publishes("a.", num(1)), publishes(">.a", num(1)), publishes(long+"a", num(1)), publishes("A", num(1)), publishes("a", impl.Msg{}), publishes("a", num(1000000000)), publishes("", impl.Msg{}),
	}
	for op := 1; op <= 19; op++ {
		c := impl.Call{Op: op, Tok: -1}
		switch op {
		case impl.OpUpdate:
			c = changes(0, add(1))
		case impl.OpPublish:
			c = publishes("a", num(1))
		}
		for _, x := range []struct {
			letter string
			with   impl.Call
		}{
			{"A", impl.Call{Op: op, A: 1, B: c.B, Tok: -1, Name: c.Name, Msg: c.Msg}}, {"A", impl.Call{Op: op, A: -1, B: c.B, Tok: -1, Name: c.Name, Msg: c.Msg}},
			{"B", impl.Call{Op: op, B: 1, Tok: -1, Name: c.Name, Msg: c.Msg}}, {"T", impl.Call{Op: op, B: c.B, Name: c.Name, Msg: c.Msg}}, {"T", impl.Call{Op: op, B: c.B, Tok: 7, Name: c.Name, Msg: c.Msg}},
			{"N", impl.Call{Op: op, B: c.B, Tok: -1, Name: "b", Msg: c.Msg}}, {"M", impl.Call{Op: op, B: c.B, Tok: -1, Name: c.Name, Msg: text("a")}}, {"F", impl.Call{Op: op, B: c.B, Tok: -1, Name: c.Name, Msg: c.Msg, Filter: allOf(bare(1))}},
		} {
			if strings.Contains(namesOfOps[op], x.letter) != impl.CallOk(x.with) {
				t.Error("names", op, x.letter, x.with)
			}
		}
	}
	for i, c := range wrong {
		if impl.CallOk(c) {
			t.Error("right", i, c)
		}
		h := handHub()
		for _, a := range []hubAnswer{doOf(h, 0, c), endOf(h, 0, c), abortOf(h, 0, c)} {
			if a.r != code(impl.Bad) || !sameHub(a.h, h) {
				t.Error("not refused", i, a.r)
			}
		}
	}
}
