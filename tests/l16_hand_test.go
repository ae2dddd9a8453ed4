package tests

import (
	"math"
	"slices"
	"strings"
	"testing"

	"loop.example/g00098/impl"
)

// The tests of this file have their answers written out, so that they lean on no second way to work them out.

func TestQuietConstants(t *testing.T) {
	if impl.BrCell != 1 || impl.BrLoose != 2 {
		t.Error("kinds", impl.BrCell, impl.BrLoose)
	}
}

func cellBreaches(numbers ...int) []impl.Breach { return breachesOf(1, numbers) }

func looseOnes(numbers ...int) []impl.Breach { return breachesOf(2, numbers) }

func breachesOf(kind int, numbers []int) []impl.Breach {
	var list []impl.Breach
	for _, n := range numbers {
		list = append(list, impl.Breach{Kind: kind, At: n})
	}
	return list
}

func checkBreaches(t *testing.T, what any, s impl.State, want ...impl.Breach) {
	t.Helper()
	if !impl.StateOk(s) {
		t.Fatal("not right", what, brief(s))
	}
	if got := impl.Breaches(s); !slices.Equal(got, want) {
		t.Errorf("%v: %v, want %v; of %s", what, got, want, brief(s))
	}
}

// TestQuietByHand has states in which only steps of one kind are left, and goes on by them to where there is none.
func TestQuietByHand(t *testing.T) {
	steps := func(list ...impl.Step) []impl.Step { return list }
	texts := func(list ...string) []string { return list }
	for _, x := range []stepsCase{
		{"nobody", nil, nil, nil},
		{"no calls", texts("", "", ""), nil, nil},
		{"all is done", texts("tell 0\ntell 1\n", "look 0\n"), steps(stepCall(1), stepCall(0), stepCall(0)), nil},
		{"the first can call", texts("tell 0\n", ""), nil, steps(stepCall(0))},
		{"the last can call", texts("", "", "", "", "", "tell 9\n"), nil, steps(stepCall(5))},
		{"one can call beside one who waits", texts("await 0\n", "tell 1\n"), steps(stepCall(0)), steps(stepCall(1))},
		{"a call that its token refuses", texts("await 0 by 0\n", "cancel 0\n"), steps(stepCall(1)), steps(stepCall(0))},
		{"one waits", texts("await 0\ntell 1\n", ""), steps(stepCall(0)), nil},
		{"all wait", texts("await 0\n", "stand 0\n", "latch 0\n", "watch 0\n", "sub 3\nrecv 0\n"), steps(stepCall(0), stepCall(1), stepCall(2), stepCall(3), stepCall(4), stepCall(4)), nil},
		{"one waits with a token that is not off", texts("await 0 by 1\n", "cancel 2\n"), steps(stepCall(0), stepCall(1)), nil},
		{"one can end", texts("await 0\n", "tell 0\n"), steps(stepCall(0), stepCall(1)), steps(stepEnd(0))},
		{"the last can end", texts("tellall 0\n", "", "", "", "", "await 0 by 0\n"), steps(stepCall(5), stepCall(0)), steps(stepEnd(5))},
		{"one can end at an event", texts("stand 1\n", "raise 1\n"), steps(stepCall(0), stepCall(1)), steps(stepEnd(0))},
		{"one can end at a latch", texts("latch 0\n", "down 0 2\n"), steps(stepCall(0), stepCall(1)), steps(stepEnd(0))},
		{"one can end at a cell", texts("watch 0\n", "shut 0\n"), steps(stepCall(0), stepCall(1)), steps(stepEnd(0))},
		{"one can end at a topic", texts("sub 3\nrecv 0\n", "close 3\n"), steps(stepCall(0), stepCall(0), stepCall(1)), steps(stepEnd(0))},
		{"one can abort", texts("await 0 by 0\n", "cancel 0\n"), steps(stepCall(0), stepCall(1)), steps(stepAbort(0))},
		{"the last can abort", texts("cancel 0\n", "", "", "", "", "sub 3\nrecv 0 by 1\n"), steps(stepCall(5), stepCall(5), stepCall(0)), steps(stepAbort(5))},
		{"a leg", texts("pub d 1\n", "close 1\n"), steps(stepCall(0), stepCall(1)), steps(stepLeg(0, 1))},
		{"a leg of the last merge", texts("pub c 1\n"), steps(stepCall(0)), steps(stepLeg(1, 0))},
		{"a tick", texts("timer 5 0\n"), steps(stepCall(0)), steps(stepTick())},
		{"a tick that cancels nothing", texts("timer 5 0\ncancel 0\n"), steps(stepCall(0), stepCall(0)), steps(stepTick())},
	} {
		s := gone(t, begun(t, runPlan(), x.texts...), x.ahead...)
		if got := impl.Steps(s); !slices.Equal(got, x.want) {
			t.Fatal(x.what, got)
		}
		if impl.Quiet(s) != (len(x.want) == 0) {
			t.Error(x.what, impl.Quiet(s))
		}
		if d := gone(t, s, x.want...); !impl.Quiet(d) {
			t.Error("not quiet behind it", x.what, impl.Steps(d))
		}
	}
	if !impl.Quiet(impl.State{}) || !impl.Quiet(impl.State{Clients: []impl.Client{}}) {
		t.Error("nobody and nothing")
	}
}

// TestQuietWithoutClients has what goes on by itself.
func TestQuietWithoutClients(t *testing.T) {
	s := begun(t, runPlan())
	timer, leg, both := cloneState(s), cloneState(s), legState()
	timer.Hub.Clock = clock(3, [2]int{4, 0})
	leg.Hub.Topics[1].Ring.Closed = true
	both.Clients, both.Hub.Users = nil, nil
	for i, x := range []impl.State{timer, leg, both} {
		if !impl.StateOk(x) || impl.Quiet(x) {
			t.Error("quiet", i)
		}
	}
	timer.Hub.Clock.Timers = nil
	leg.Hub.Topics[1].Ring.Closed = false
	for i, x := range []impl.State{s, timer, leg} {
		if !impl.StateOk(x) || !impl.Quiet(x) {
			t.Error("not quiet", i)
		}
	}
}

func TestStuckByHand(t *testing.T) {
	steps := func(list ...impl.Step) []impl.Step { return list }
	waits := []string{"await 0\n", "stand 0\n", "latch 0\n", "watch 0\n", "sub 3\nrecv 0\n", "await 1 by 0\n"}
	all := steps(stepCall(5), stepCall(4), stepCall(3), stepCall(2), stepCall(1), stepCall(0), stepCall(4))
	for i, x := range []struct {
		texts []string
		ahead []impl.Step
		rest  bool
		want  []int
	}{
		{nil, nil, true, nil}, {[]string{"", ""}, nil, true, nil}, {[]string{"tell 0\n", "tell 0\n"}, nil, false, nil}, {[]string{"tell 0\n", "tell 0\n"}, steps(stepCall(1)), false, nil}, {[]string{"tell 0\n", "tell 0\n"}, steps(stepCall(1), stepCall(0)), true, nil},
		{[]string{"", "await 0\n", ""}, nil, false, nil}, {[]string{"", "await 0\n", ""}, steps(stepCall(1)), true, []int{1}}, {[]string{"await 0\n"}, steps(stepCall(0)), true, []int{0}}, {[]string{"await 0\n", "tell 1\n"}, steps(stepCall(0)), false, []int{0}},
		{[]string{"tell 1\n", "", "await 0\n"}, steps(stepCall(2)), false, []int{2}}, {[]string{"tell 1\n", "", "await 0\n"}, steps(stepCall(0), stepCall(2)), true, []int{2}},
		{[]string{"await 0\n", "tell 1\n", "await 0\n"}, steps(stepCall(2), stepCall(0)), false, []int{0, 2}}, {[]string{"await 0\n", "tell 1\n", "await 0\n"}, steps(stepCall(2), stepCall(0), stepCall(1)), true, []int{0, 2}},
		// Who was told, or has a token that is off, is Waiting until it goes on.
		{[]string{"await 0\n", "tell 0\n"}, steps(stepCall(0), stepCall(1)), false, []int{0}}, {[]string{"await 0\n", "tell 0\n"}, steps(stepCall(0), stepCall(1), stepEnd(0)), true, nil}, {[]string{"await 0 by 0\n", "cancel 0\n"}, steps(stepCall(0), stepCall(1)), false, []int{0}}, {[]string{"await 0 by 0\n", "cancel 0\n"}, steps(stepCall(0), stepCall(1), stepAbort(0)), true, nil},
		{waits, nil, false, nil}, {waits, all[:3], false, []int{3, 5}}, {waits, all[:6], false, []int{0, 1, 2, 3, 5}}, {waits, all, true, upTo(0, 6)},
		{[]string{"await 0\n", "await 0\n", "await 0\n"}, steps(stepCall(2), stepCall(0), stepCall(1)), true, []int{0, 1, 2}}, {[]string{"await 0\n", "await 0\n", "await 0\ntimer 1 0\n"}, steps(stepCall(2), stepCall(0), stepCall(1)), true, []int{0, 1, 2}},
		{[]string{"timer 1 0\nawait 0\n", "await 0\n"}, steps(stepCall(0), stepCall(1), stepCall(0)), false, []int{0, 1}}, {[]string{"timer 1 0\nawait 0\n", "await 0\n"}, steps(stepCall(0), stepCall(1), stepCall(0), stepTick()), true, []int{0, 1}},
	} {
		s := gone(t, begun(t, runPlan(), x.texts...), x.ahead...)
		if got := impl.Stuck(s); !slices.Equal(got, x.want) || impl.Quiet(s) != x.rest {
			t.Error("stuck", i, got, impl.Quiet(s))
		}
		checkBreaches(t, i, s)
	}
	// Stuck asks for Waiting alone, not for where one stands.
	s := threeClients()
	if got := impl.Stuck(s); !slices.Equal(got, []int{1}) {
		t.Error("stuck by hand", got)
	}
	s.Clients[1].Prog[1].A = 99
	s.Clients[0].At, s.Clients[0].Waiting = 1, true
	if got := impl.Stuck(s); !slices.Equal(got, []int{0, 1}) {
		t.Error("stuck elsewhere", got)
	}
}

// watchedState has a cell at which these clients stand, each of them Waiting there if it is in line.
func watchedState(c impl.Cell, seen ...int) impl.State {
	s := impl.State{Hub: impl.Hub{Cells: []impl.Cell{c}}}
	for who, n := range seen {
		s.Hub.Users = append(s.Hub.Users, impl.User{Seen: []int{n}})
		stands := slices.Contains(slices.Concat(c.Line, c.Grants), who)
		s.Clients = append(s.Clients, impl.Client{Prog: []impl.Call{asks(impl.OpWatch, 0)}, Waiting: stands})
	}
	return s
}

func TestCellsWithOneBehindByHand(t *testing.T) {
	least, greatest := math.MinInt, math.MaxInt
	one := cellBreaches(0)
	for i, x := range []struct {
		c    impl.Cell
		seen []int
		want []impl.Breach
	}{
		{openCell(num(1), 5, []int{0}, nil), []int{5}, nil}, {openCell(num(1), 5, []int{0}, nil), []int{4}, one}, {openCell(num(1), 5, []int{0}, nil), []int{6}, nil}, {openCell(num(1), 5, []int{0}, nil), []int{0}, one}, {openCell(num(1), 5, []int{0}, nil), []int{-1}, one}, {openCell(num(1), 5, []int{0}, nil), []int{least}, one}, {openCell(num(1), 5, []int{0}, nil), []int{greatest}, nil},
		{openCell(num(1), 0, []int{0}, nil), []int{0}, nil}, {openCell(num(1), 0, []int{0}, nil), []int{-1}, one}, {openCell(num(1), 0, []int{0}, nil), []int{1}, nil}, {openCell(num(1), most, []int{0}, nil), []int{most}, nil}, {openCell(num(1), most, []int{0}, nil), []int{most - 1}, one},
		// Who was told, and who does not stand there, may have seen less.
		{openCell(num(1), 5, nil, []int{0}), []int{4}, nil}, {openCell(num(1), 5, nil, []int{0}), []int{5}, nil}, {shutCell(num(1), 5, nil, []int{0}), []int{4}, nil}, {openCell(num(1), 5, nil, nil), []int{4}, nil}, {openCell(num(1), 5, []int{1}, nil), []int{4, 5, 4}, nil}, {openCell(num(1), 5, []int{1}, []int{0, 2}), []int{4, 5, 4}, nil},
		{openCell(num(1), 5, []int{1}, nil), []int{5, 4, 5}, one}, {openCell(num(1), 5, []int{2, 0}, []int{1}), []int{5, 5, 4}, one}, {openCell(num(1), 5, []int{2, 0}, []int{1}), []int{4, 5, 5}, one}, {openCell(num(1), 5, []int{2, 0}, []int{1}), []int{5, 4, 5}, nil},
		// Several who have seen less make one breach.
		{openCell(num(1), 5, []int{2, 0}, []int{1}), []int{4, 4, 4}, one}, {openCell(num(1), 5, []int{2, 0, 1, 3, 5, 4}, nil), []int{4, 3, 2, 1, 0, -1}, one}, {openCell(num(1), 5, []int{2, 0, 1, 3, 5, 4}, nil), []int{6, 5, 7, 8, 5, 5}, nil}, {openCell(num(1), 5, []int{2, 0, 1, 3, 5, 4}, nil), []int{6, 5, 7, 8, 4, 5}, one},
	} {
		checkBreaches(t, i, watchedState(x.c, x.seen...), x.want...)
	}
}

// TestSeveralCellsByHand has cells some of which one waits at who has seen less.
func TestSeveralCellsByHand(t *testing.T) {
	for behind := range 1 << 8 {
		s := impl.State{Hub: impl.Hub{Users: users(6, 9, 9, 9, 9, 9, 9, 9, 9)}, Clients: make([]impl.Client, 6)}
		var numbers []int
		at := map[int]bool{}
		for i := range 8 {
			who := i * 5 % 6
			s.Hub.Cells = append(s.Hub.Cells, openCell(num(i), 9, []int{who}, []int{(who + 1) % 6}))
			s.Hub.Users[(who+1)%6].Seen[i] = 2
			at[who], at[(who+1)%6] = true, true
			if behind>>i&1 == 1 {
				numbers = append(numbers, i)
				s.Hub.Users[who].Seen[i] = 8
			}
		}
		// All of them stand in several cells, and none is Waiting.
		checkBreaches(t, behind, s, append(cellBreaches(numbers...), looseOnes(0, 1, 2, 3, 4, 5)...)...)
		if len(at) != 6 {
			t.Fatal("who stands", at)
		}
	}
}

// TestCellsOfOthersByHand: the versions that one has seen of another cell, and those that another one has seen, don't matter.
func TestCellsOfOthersByHand(t *testing.T) {
	s := impl.State{Hub: impl.Hub{Cells: []impl.Cell{openCell(num(1), 3, []int{1}, nil), openCell(num(1), 7, nil, nil)}, Users: users(3, 0, 0)}, Clients: make([]impl.Client, 3)}
	s.Clients[1] = impl.Client{Prog: []impl.Call{asks(impl.OpWatch, 0)}, Waiting: true}
	s.Hub.Users[1].Seen[0] = 3
	checkBreaches(t, "others", s)
	s.Hub.Users[1].Seen = []int{2, 7}
	checkBreaches(t, "behind", s, cellBreaches(0)...)
	s.Hub.Users[0].Seen, s.Hub.Users[2].Seen = []int{3, 7}, []int{9, 9}
	checkBreaches(t, "behind, others not", s, cellBreaches(0)...)
}

// spot is a place where client 2 of spotState may stand, and the call by which it waits there.
type spot struct {
	what string
	wait impl.Call
	in   func(h *impl.Hub)
}

// spotState has three things of each kind, client 0 who waits rightly at Note 1, client 3 who was told rightly in topic 2, client 1 who is done, and client 2, who stands nowhere.
func spotState() impl.State {
	ring := func(line []int, grants []int) impl.Ring {
		return waitedFor(keeps(2, 3, nil, 6, fresh(0, 3), fresh(1, 3), fresh(2, 3), fresh(4, 3)), line, grants)
	}
	h := impl.Hub{
		Tokens: tokens([]int{-1, -1}, 1), Notes: []impl.Notify{{}, {Line: []int{0}}, {}}, Events: []impl.Event{{Auto: true}, {}, {Auto: true}}, Latches: []impl.Latch{{Count: 2}, {Count: 1}, {Count: 2}},
		Cells:  []impl.Cell{openCell(num(1), 0, nil, nil), openCell(num(1), 4, nil, nil), openCell(text("a"), 9, nil, nil)},
		Topics: topics(topic("a", ring(nil, nil)), topic("b", ring(nil, nil)), topic("c", ring(nil, []int{4}))), Users: users(4, 0, 4, 9),
	}
	h.Users[2].Subs = hits([2]int{1, 0}, [2]int{2, 1}, [2]int{0, 2})
	h.Users[1].Subs = hits([2]int{1, 1}, [2]int{2, 0}, [2]int{0, 0})
	h.Users[3].Subs = hits([2]int{0, 4}, [2]int{2, 4})
	return impl.State{Hub: h, Clients: []impl.Client{{Prog: []impl.Call{asks(impl.OpAwait, 1)}, Waiting: true}, {Prog: []impl.Call{asks(impl.OpTell, 2)}, At: 1}, {}, {Prog: []impl.Call{asks(impl.OpTell, 2), takes(impl.OpRecv, 1)}, At: 1, Waiting: true}}}
}

// spots are all places where client 2 may stand: of each thing its Line and its Grants, one behind the other.
func spots() []spot {
	var list []spot
	both := func(what string, wait impl.Call, line func(h *impl.Hub), told func(h *impl.Hub)) {
		list = append(list, spot{what + " line", wait, line}, spot{what + " grants", wait, told})
	}
	for i := range 3 {
		at := string(rune('0' + i))
		both("note "+at, asks(impl.OpAwait, i), func(h *impl.Hub) { h.Notes[i].Line = append(h.Notes[i].Line, 2) }, func(h *impl.Hub) {
			h.Notes[i].Grants = append(byAll(2), h.Notes[i].Grants...)
			if i == 0 {
				h.Notes[0] = impl.Notify{Grants: byOne(2), Ones: 1}
			}
		})
		both("event "+at, asks(impl.OpStand, i), func(h *impl.Hub) { h.Events[i].Line = []int{2} }, func(h *impl.Hub) {
			h.Events[i].Grants = []int{2}
			if h.Events[i].Auto {
				h.Events[i].Sets = 1
			}
		})
		both("latch "+at, asks(impl.OpLatch, i), func(h *impl.Hub) { h.Latches[i].Line = []int{2} }, func(h *impl.Hub) { h.Latches[i].Grants = []int{2} })
		both("cell "+at, asks(impl.OpWatch, i), func(h *impl.Hub) { h.Cells[i].Line = []int{2} }, func(h *impl.Hub) { h.Cells[i].Grants = []int{2} })
		both("sub "+at, takes(impl.OpRecv, i), func(h *impl.Hub) {
			x := h.Users[2].Subs[i]
			h.Topics[x.Topic].Ring.Line = append(h.Topics[x.Topic].Ring.Line, x.Id)
		}, func(h *impl.Hub) {
			x := h.Users[2].Subs[i]
			h.Topics[x.Topic].Ring.Grants = append(h.Topics[x.Topic].Ring.Grants, x.Id)
		})
	}
	return list
}

// elsewhere are calls at which nobody stands.
func elsewhere() []impl.Call {
	var list []impl.Call
	for _, n := range []int{math.MinInt, -1, 3, 4, 99, math.MaxInt} {
		list = append(list, asks(impl.OpAwait, n), asks(impl.OpStand, n), asks(impl.OpLatch, n), asks(impl.OpWatch, n), takes(impl.OpRecv, n))
	}
	return list
}

// sameWait leans on this: of spots each two stand for one thing.
func sameWait(i int, j int) bool { return i/2 == j/2 }

// waitingAt has client 2 Waiting at this call, behind others and ahead of others.
func waitingAt(s impl.State, c impl.Call, others ...impl.Call) impl.State {
	s = cloneState(s)
	s.Clients[2] = impl.Client{Prog: slices.Concat(others, []impl.Call{c}, others), At: len(others), Waiting: true}
	return s
}

// TestOneWhoStandsByHand has each place where one may stand, and each call at which it may be Waiting then.
func TestOneWhoStandsByHand(t *testing.T) {
	base := spotState()
	checkBreaches(t, "nowhere", base)
	all := spots()
	for i, x := range all {
		s := cloneState(base)
		x.in(&s.Hub)
		for at, prog := range [][]impl.Call{nil, {x.wait}, {x.wait, x.wait}} {
			// Not Waiting, at whatever call.
			s.Clients[2] = impl.Client{Prog: prog, At: at / 2}
			checkBreaches(t, x.what+", not Waiting", s, looseOnes(2)...)
			s.Clients[2].At = len(prog)
			checkBreaches(t, x.what+", at its end", s, looseOnes(2)...)
		}
		for j, y := range all {
			if sameWait(i, j) {
				for _, tok := range []int{-1, 0, 1, 2, math.MaxInt} {
					checkBreaches(t, x.what+", Waiting there", waitingAt(s, byToken(y.wait, tok)))
					checkBreaches(t, x.what+", Waiting there", waitingAt(s, byToken(y.wait, tok), all[(j+9)%30].wait, asks(impl.OpTell, 0)))
				}
				continue
			}
			checkBreaches(t, x.what+", Waiting at "+y.what, waitingAt(s, y.wait), looseOnes(2)...)
			checkBreaches(t, x.what+", Waiting at "+y.what, waitingAt(s, y.wait, x.wait), looseOnes(2)...)
		}
		for _, c := range elsewhere() {
			checkBreaches(t, x.what+", Waiting elsewhere", waitingAt(s, c), looseOnes(2)...)
		}
	}
}

// TestOneWhoStandsNowhereByHand is Waiting there, though others are.
func TestOneWhoStandsNowhereByHand(t *testing.T) {
	base := spotState()
	for _, x := range spots() {
		checkBreaches(t, "waits at "+x.what, waitingAt(base, x.wait), looseOnes(2)...)
		checkBreaches(t, "waits at "+x.what, waitingAt(base, byToken(x.wait, 1), x.wait), looseOnes(2)...)
		checkBreaches(t, "does not wait", func() impl.State {
			s := waitingAt(base, x.wait)
			s.Clients[2].Waiting = false
			return s
		}())
	}
	for _, c := range elsewhere() {
		checkBreaches(t, "waits elsewhere", waitingAt(base, c), looseOnes(2)...)
	}
}

// TestOneWhoStandsTwiceByHand is loose wherever it is Waiting, and told once.
func TestOneWhoStandsTwiceByHand(t *testing.T) {
	all := spots()
	pairs := 0
	for i, x := range all {
		for j, y := range all[:i] {
			if sameWait(i, j) {
				continue
			}
			pairs++
			s := spotState()
			x.in(&s.Hub)
			y.in(&s.Hub)
			what := x.what + " and " + y.what
			checkBreaches(t, what, s, looseOnes(2)...)
			for _, c := range []impl.Call{x.wait, y.wait, all[(i+j+2)%30].wait, elsewhere()[(i+j)%30]} {
				checkBreaches(t, what+", Waiting", waitingAt(s, c), looseOnes(2)...)
			}
		}
	}
	if pairs != 30*28/2 {
		t.Error("how many pairs", pairs)
	}
	s := spotState()
	for i, x := range all {
		if i%2 == i/2%2 {
			x.in(&s.Hub)
		}
	}
	checkBreaches(t, "everywhere", s, looseOnes(2)...)
	for _, x := range all {
		checkBreaches(t, "everywhere, Waiting at "+x.what, waitingAt(s, x.wait), looseOnes(2)...)
	}
}

// TestSubscriptionsThatAreSharedByHand has one subscription at two places of a client, at one of two clients, and one that is gone.
func TestSubscriptionsThatAreSharedByHand(t *testing.T) {
	for _, told := range []int{0, 1} {
		s := spotState()
		s.Hub.Users[2].Subs = hits([2]int{1, 0}, [2]int{1, 0}, [2]int{0, 9}, [2]int{1, 2})
		spots()[8+told].in(&s.Hub)
		if n := slices.Concat(s.Hub.Topics[1].Ring.Line, s.Hub.Topics[1].Ring.Grants); !slices.Equal(n, []int{0}) {
			t.Fatal("who stands", n)
		}
		for place := range 5 {
			var want []impl.Breach
			if place > 1 {
				want = looseOnes(2)
			}
			checkBreaches(t, "twice", waitingAt(s, takes(impl.OpRecv, place)), want...)
		}
		s = waitingAt(s, takes(impl.OpRecv, 1))
		s.Hub.Users[1].Subs = hits([2]int{1, 0})
		checkBreaches(t, "two have it, one waits", s, looseOnes(1)...)
		s.Clients[1] = impl.Client{Prog: []impl.Call{takes(impl.OpRecv, 0)}, Waiting: true}
		checkBreaches(t, "two have it, both wait", s)
		s.Clients[2] = impl.Client{}
		checkBreaches(t, "two have it, the other one waits", s, looseOnes(2)...)
		s.Hub.Users[2].Subs = hits([2]int{0, 9}, [2]int{1, 9}, [2]int{0, 0}, [2]int{2, 0}, [2]int{1, -1})
		checkBreaches(t, "others have it", s)
		s.Clients[1], s.Hub.Users[1].Subs = impl.Client{}, nil
		checkBreaches(t, "nobody has it", s)
	}
}

// TestNumbersOfNobodyByHand has in lines whom the state has not: they are none of its clients, and no Users.
func TestNumbersOfNobodyByHand(t *testing.T) {
	s := spotState()
	h := &s.Hub
	h.Notes[0], h.Events[1].Line, h.Latches[0].Line = impl.Notify{Line: []int{4, 63}, Grants: byAll(5)}, []int{4, 6}, []int{63}
	h.Cells[1].Line, h.Cells[2].Grants = []int{4, 63}, []int{4}
	checkBreaches(t, "nobody", s)
	h.Users[3].Seen[1], h.Users[2].Seen[1] = 0, 0
	checkBreaches(t, "nobody at a cell", s)
	h.Cells[1].Line = []int{63, 2, 4}
	checkBreaches(t, "one beside nobody", waitingAt(s, asks(impl.OpWatch, 1)), cellBreaches(1)...)
	s.Clients, s.Hub.Users = nil, nil
	checkBreaches(t, "no clients", s)
}

// TestSeveralLooseByHand has all sets of clients that are loose, each in another way.
func TestSeveralLooseByHand(t *testing.T) {
	for set := range 1 << 6 {
		s := impl.State{Hub: impl.Hub{
			Notes: []impl.Notify{{Line: []int{5, 0}}, {Grants: byAll(1)}}, Events: []impl.Event{{Line: []int{4}}, {Up: true}}, Latches: []impl.Latch{{Grants: []int{2}}},
			Cells: []impl.Cell{openCell(num(0), 3, []int{3}, nil)}, Users: users(6, 3),
		}, Clients: make([]impl.Client, 6)}
		rights := []impl.Call{asks(impl.OpAwait, 0), asks(impl.OpAwait, 1), asks(impl.OpLatch, 0), asks(impl.OpWatch, 0), asks(impl.OpStand, 0), asks(impl.OpAwait, 0)}
		wrongs := []impl.Call{asks(impl.OpAwait, 1), asks(impl.OpStand, 1), asks(impl.OpAwait, 0), asks(impl.OpLatch, 0), asks(impl.OpTell, 0), takes(impl.OpRecv, 0)}
		var numbers []int
		for who := range 6 {
			c := rights[who]
			if set>>who&1 == 1 {
				c, numbers = wrongs[who], append(numbers, who)
			}
			s.Clients[who] = impl.Client{Prog: []impl.Call{c}, Waiting: c.Op != impl.OpTell}
		}
		checkBreaches(t, set, s, looseOnes(numbers...)...)
		s.Hub.Users[3].Seen[0] = 2
		checkBreaches(t, set, s, append(cellBreaches(0), looseOnes(numbers...)...)...)
	}
}

// TestBreachesOfBothKindsByHand: by Kind, then by At, though the numbers of the clients are the lower ones.
func TestBreachesOfBothKindsByHand(t *testing.T) {
	s := impl.State{Hub: impl.Hub{Cells: make([]impl.Cell, 8), Users: users(5, 1, 1, 1, 1, 1, 1, 1, 1)}, Clients: make([]impl.Client, 5)}
	for i := range s.Hub.Cells {
		s.Hub.Cells[i] = openCell(num(i), 1, nil, nil)
	}
	s.Hub.Cells[7].Line, s.Hub.Cells[2].Line, s.Hub.Cells[5].Line, s.Hub.Cells[3].Grants = []int{0, 4}, []int{3}, []int{1}, []int{2}
	s.Hub.Users[0].Seen[7], s.Hub.Users[4].Seen[7], s.Hub.Users[3].Seen[2], s.Hub.Users[2].Seen[3] = 0, 0, -5, 0
	checkBreaches(t, "none is Waiting", s, append(cellBreaches(2, 7), looseOnes(0, 1, 2, 3, 4)...)...)
	watch := func(who int, cell int) {
		s.Clients[who] = impl.Client{Prog: []impl.Call{asks(impl.OpWatch, cell)}, Waiting: true}
	}
	watch(0, 7)
	watch(2, 3)
	watch(3, 7)
	checkBreaches(t, "some are Waiting", s, append(cellBreaches(2, 7), looseOnes(1, 3, 4)...)...)
	watch(3, 2)
	watch(1, 5)
	watch(4, 7)
	checkBreaches(t, "all are Waiting", s, cellBreaches(2, 7)...)
	s.Hub.Users[3].Seen[2] = 1
	s.Hub.Users[0].Seen[7] = 1
	checkBreaches(t, "one of two has seen it", s, cellBreaches(7)...)
	s.Hub.Users[4].Seen[7] = 1
	checkBreaches(t, "all is right", s)
	s.Clients[4].Waiting = false
	checkBreaches(t, "one is loose", s, looseOnes(4)...)
}

// TestBreachesOfARunThatIsSpoiltByHand begins at states that runs came to.
func TestBreachesOfARunThatIsSpoiltByHand(t *testing.T) {
	texts := []string{"await 0\n", "sub 3\nrecv 0\ntell 1\n", "watch 0 by 0\n", "latch 0\n", "stand 1\n", "look 0\nawait 1\n"}
	s, _ := impl.Run(begun(t, runPlan(), texts...), make([]int, 20))
	checkBreaches(t, "at rest", s)
	if !impl.Quiet(s) || !slices.Equal(impl.Stuck(s), upTo(0, 6)) {
		t.Fatal("at rest", impl.Steps(s), impl.Stuck(s))
	}
	for who := range 6 {
		d := cloneState(s)
		d.Clients[who].Waiting = false
		checkBreaches(t, "does not wait", d, looseOnes(who)...)
		d.Clients[who].At++
		checkBreaches(t, "has gone on", d, looseOnes(who)...)
		for other := range 6 {
			d := cloneState(s)
			d.Clients[who].Prog, d.Clients[other].Prog = d.Clients[other].Prog, d.Clients[who].Prog
			d.Clients[who].At, d.Clients[other].At = d.Clients[other].At, d.Clients[who].At
			if who != other {
				checkBreaches(t, "turned about", d, looseOnes(min(who, other), max(who, other))...)
			}
		}
		telling := map[int]impl.Call{0: asks(impl.OpTell, 0), 1: publishes("d", num(1)), 2: asks(impl.OpShut, 0), 3: asksWith(impl.OpDown, 0, 2), 4: asks(impl.OpRaise, 1), 5: asks(impl.OpTellAll, 1)}[who]
		h, r := impl.Do(s.Hub, who, telling)
		d = cloneState(impl.State{Hub: h, Clients: s.Clients})
		if r.Code != impl.Done || !slices.Equal(impl.Steps(d), []impl.Step{stepEnd(who)}) || impl.Quiet(d) || !slices.Equal(impl.Stuck(d), upTo(0, 6)) {
			t.Error("told", who, r, impl.Steps(d))
		}
		checkBreaches(t, "told", d)
		d.Clients[who].Waiting = false
		checkBreaches(t, "told, and does not wait", d, looseOnes(who)...)
		h, _ = impl.End(h, who, s.Clients[who].Prog[s.Clients[who].At])
		checkBreaches(t, "ended behind its back", cloneState(impl.State{Hub: h, Clients: s.Clients}), looseOnes(who)...)
	}
	s.Hub.Users[2].Seen[0] = -1
	checkBreaches(t, "has seen less", s, cellBreaches(0)...)
	s.Clients[2].Waiting = false
	checkBreaches(t, "has seen less, and does not wait", s, append(cellBreaches(0), looseOnes(2)...)...)
}

func TestKeptByHand(t *testing.T) {
	check := func(what string, s impl.State, want ...int) {
		t.Helper()
		if got := impl.Kept(s); !slices.Equal(got, want) || !impl.StateOk(s) {
			t.Error(what, got, want)
		}
	}
	check("nothing", impl.State{})
	check("no topics", begun(t, impl.Plan{Notes: 3}, "tell 0\n"))
	check("no messages", begun(t, runPlan(), ""), 0, 0, 0, 0)
	p := impl.Plan{Names: []string{"a", "b", "c", "d", "e"}, Caps: []int{1, 3, 16, 2, 5}}
	pubs := func(n int) string { return strings.Repeat("pub > 1\n", n) }
	for n, want := range [][]int{{0, 0, 0, 0, 0}, {1, 1, 1, 0, 1}, {1, 2, 2, 0, 2}, {1, 3, 3, 0, 3}, {1, 3, 4, 0, 4}, {1, 3, 5, 0, 5}, {1, 3, 6, 0, 5}} {
		s, _ := impl.Run(begun(t, p, "sub 0\nsub 1\nsub 2\nsub 4\n"+pubs(n)), make([]int, 30))
		check("sent", s, want...)
	}
	long := begun(t, p, "sub 2\nsub 3\nsub 1\nrecv 2\nrecv 2\nunsub 1\n"+strings.Repeat("recv 0\n", 7), "tell 0\n"+pubs(20))
	ahead := gone(t, long, slices.Repeat([]impl.Step{stepCall(0)}, 3)...)
	ahead = gone(t, ahead, slices.Repeat([]impl.Step{stepCall(1)}, 21)...)
	check("all have Cap, or nobody who reads", ahead, 0, 3, 16, 2, 0)
	lost := gone(t, ahead, stepCall(0))
	check("told what is lost", lost, 0, 3, 16, 2, 0)
	check("one is read", gone(t, lost, stepCall(0)), 0, 2, 16, 2, 0)
	check("nobody is left who reads", gone(t, lost, stepCall(0), stepCall(0)), 0, 2, 16, 0, 0)
	check("more is read", gone(t, lost, stepCall(0), stepCall(0), stepCall(0), stepCall(0), stepCall(0)), 0, 2, 14, 0, 0)
	closed := cloneState(ahead)
	closed.Hub.Topics[2].Ring.Closed = true
	check("closed", closed, 0, 3, 16, 2, 0)
	slices.Reverse(closed.Hub.Topics)
	for i := range closed.Hub.Users[0].Subs {
		closed.Hub.Users[0].Subs[i].Topic = 4 - closed.Hub.Users[0].Subs[i].Topic
	}
	check("the other way round", closed, 0, 2, 16, 3, 0)
	check("by hand", threeClients(), 2, 2, 0, 0, 0, 0)
	many := begun(t, impl.Plan{Names: twelve(), Caps: upTo(3, 12)})
	for i := range 12 {
		many.Hub.Topics[i].Ring = ringOf(3+i, 20, reads(0, 0, 20-i/2))
	}
	check("twelve", many, 0, 0, 1, 1, 2, 2, 3, 3, 4, 4, 5, 5)
}

// TestQuietOfWrongStatesByHand: not quiet, and nothing told, though all that is wrong is one thing.
func TestQuietOfWrongStatesByHand(t *testing.T) {
	check := func(what any, s impl.State) {
		t.Helper()
		if impl.StateOk(s) {
			t.Fatal("right", what, brief(s))
		}
		if impl.Quiet(s) || len(impl.Stuck(s)) != 0 || len(impl.Breaches(s)) != 0 || len(impl.Kept(s)) != 0 {
			t.Error("told", what, impl.Quiet(s), impl.Stuck(s), impl.Breaches(s), impl.Kept(s))
		}
	}
	right := threeClients()
	if len(impl.Stuck(right)) == 0 || len(impl.Breaches(right)) == 0 || len(impl.Kept(right)) == 0 {
		t.Error("of the right one there is something to tell")
	}
	for i, x := range wrongStates() {
		check(i, x.s)
	}
	rest, _ := impl.Run(begun(t, runPlan(), "await 0\n", "sub 3\npub d 1\n", "watch 0\n"), make([]int, 9))
	rest.Hub.Users[2].Seen[0] = -1
	rest.Clients[0].At, rest.Clients[0].Waiting = 0, false
	rest.Clients[0].Prog = nil
	if !impl.Quiet(rest) || len(impl.Stuck(rest)) != 1 || !slices.Equal(impl.Breaches(rest), append(cellBreaches(0), looseOnes(0)...)) || !slices.Equal(impl.Kept(rest), []int{0, 0, 0, 1}) {
		t.Error("of the right one at rest", impl.Steps(rest), impl.Stuck(rest), impl.Breaches(rest), impl.Kept(rest))
	}
	for i, change := range []func(s *impl.State){
		func(s *impl.State) { s.Clients = s.Clients[:2] }, func(s *impl.State) { s.Clients = nil }, func(s *impl.State) { s.Clients = append(s.Clients, impl.Client{}) }, func(s *impl.State) { s.Hub.Users = s.Hub.Users[:2] }, func(s *impl.State) { s.Hub.Users = nil },
		func(s *impl.State) {
			s.Clients, s.Hub.Users = append(s.Clients, make([]impl.Client, 4)...), append(s.Hub.Users, users(4, 0)...)
		},
		func(s *impl.State) { s.Clients[0].At = -1 }, func(s *impl.State) { s.Clients[0].At = 1 }, func(s *impl.State) { s.Clients[1].At = 3 }, func(s *impl.State) { s.Clients[1].At = math.MinInt }, func(s *impl.State) { s.Clients[0].Waiting = true }, func(s *impl.State) { s.Clients[1].Waiting = true }, func(s *impl.State) { s.Clients[1].At, s.Clients[1].Waiting = 1, true },
		func(s *impl.State) { s.Clients[2].At = 1 }, func(s *impl.State) { s.Clients[2].At = 2 }, func(s *impl.State) { s.Clients[2].Prog[0].Op = 20 }, func(s *impl.State) { s.Clients[2].Prog[0].Tok = -2 }, func(s *impl.State) { s.Clients[1].Prog[0].B = 2 },
		func(s *impl.State) {
			s.Clients[1] = impl.Client{Prog: slices.Repeat(s.Clients[1].Prog, 16)[:31], At: 31}
		},
		func(s *impl.State) { s.Hub.Tokens.Off = s.Hub.Tokens.Off[:2] }, func(s *impl.State) { s.Hub.Clock.Now = -1 }, func(s *impl.State) { s.Hub.Notes[1].Ones = 1 }, func(s *impl.State) { s.Hub.Notes = make([]impl.Notify, 9) }, func(s *impl.State) { s.Hub.Events[0].Line = []int{-1} }, func(s *impl.State) { s.Hub.Latches[0].Count = -1 }, func(s *impl.State) { s.Hub.Cells[0].Closed = true },
		func(s *impl.State) { s.Hub.Topics[3].Ring.Items = nil }, func(s *impl.State) { s.Hub.Topics[2].Name = "d" }, func(s *impl.State) { s.Hub.Merges[1].Into = 2 }, func(s *impl.State) { s.Hub.Merges = slices.Repeat(s.Hub.Merges, 3)[:5] }, func(s *impl.State) { s.Hub.Users[1].Subs[0].Topic = 4 }, func(s *impl.State) { s.Hub.Users[2].Seen = nil }, func(s *impl.State) { s.Hub.Users[0].Subs = slices.Repeat(s.Hub.Users[1].Subs, 13) },
	} {
		s := cloneState(rest)
		change(&s)
		check(i, s)
	}
}
