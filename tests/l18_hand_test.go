package tests

import (
	"math"
	"slices"
	"strings"
	"testing"

	"loop.example/g00098/impl"
)

// The tests of this file have their answers written out, so that they lean on no second way to work them out.

// passage is a step, what it tells, and which steps there are ahead of it.
type passage struct {
	step  impl.Step
	reply impl.Reply
	there []impl.Step
}

// eachKindAgain is a script, and a way through it on which there are steps of each kind.
func eachKindAgain(t *testing.T) (impl.Plan, [][]impl.Call, []passage) {
	t.Helper()
	p := impl.Plan{Tokens: []int{-1, 0}, Notes: 1, Vals: nums(3), Names: []string{"a", "b"}, Caps: []int{2, 2}, Weaves: []impl.Weave{{From: []int{0}, Into: 1}}, Users: 4}
	progs := progsOf(t, "await 0 by 1\nlook 0\n", "timer 3 0\npub a \"x\"\n", "await 0\ntell 0\n", "tell 0\nsub 1\nrecv 0\nrecv 0\n")
	steps := func(list ...impl.Step) []impl.Step { return list }
	call := stepCall
	waits := code(impl.Waits)
	return p, progs, []passage{
		{call(0), waits, steps(call(0), call(1), call(2), call(3))},
		{call(1), impl.Reply{}, steps(call(1), call(2), call(3))},
		{stepTick(), impl.Reply{N: 3, M: 2}, steps(call(1), call(2), call(3), stepTick())},
		{stepAbort(0), code(impl.Off), steps(stepAbort(0), call(1), call(2), call(3))},
		{call(2), waits, steps(call(0), call(1), call(2), call(3))},
		{call(3), impl.Reply{N: 2}, steps(call(0), call(1), call(3))},
		{stepEnd(2), impl.Reply{}, steps(call(0), call(1), stepEnd(2), call(3))},
		{call(3), impl.Reply{}, steps(call(0), call(1), call(2), call(3))},
		{call(3), waits, steps(call(0), call(1), call(2), call(3))},
		{call(1), impl.Reply{N: 1}, steps(call(0), call(1), call(2))},
		{stepLeg(0, 0), impl.Reply{}, steps(call(0), call(2), stepLeg(0, 0))},
		{stepEnd(3), impl.Reply{Msg: text("x")}, steps(call(0), call(2), stepEnd(3))},
		{call(0), impl.Reply{Msg: num(3)}, steps(call(0), call(2), call(3))},
		{call(2), impl.Reply{N: -1}, steps(call(2), call(3))},
		{call(3), waits, steps(call(3))},
	}
}

// statesAhead are those ahead of each passage, and the one behind the last.
func statesAhead(t *testing.T, p impl.Plan, progs [][]impl.Call, way []passage) ([]impl.State, []impl.Mark) {
	t.Helper()
	s, code := impl.Start(p, progs)
	if code != impl.Done {
		t.Fatal("not started", code)
	}
	states := []impl.State{s}
	var list []impl.Mark
	for _, x := range way {
		s = gone(t, s, x.step)
		states, list = append(states, s), append(list, mark(x.step, x.reply))
	}
	return states, list
}

func checkAgainIs(t *testing.T, what any, p impl.Plan, progs [][]impl.Call, list []impl.Mark, want impl.State, number int) {
	t.Helper()
	if s, n := impl.Again(p, progs, list); n != number || !sameState(s, want) {
		t.Errorf("%v: %s, %d; want %s, %d", what, brief(s), n, brief(want), number)
	}
}

func TestAgainByHand(t *testing.T) {
	p, progs, way := eachKindAgain(t)
	states, list := statesAhead(t, p, progs, way)
	for i, x := range way {
		if got := impl.Steps(states[i]); !slices.Equal(got, x.there) {
			t.Fatal("another way", i, got)
		}
	}
	for n := range len(list) + 1 {
		checkAgainIs(t, n, p, progs, list[:n], states[n], n)
	}
	end := states[len(list)]
	if end.Clients[0].At != 2 || end.Clients[3].At != 3 || !end.Clients[3].Waiting || end.Hub.Merges[0].Moved != 1 || !end.Hub.Notes[0].Permit {
		t.Error("another end", brief(end))
	}
}

func TestAgainOfNothingByHand(t *testing.T) {
	for _, list := range [][]impl.Mark{nil, {}} {
		checkAgainIs(t, "nobody and nothing", impl.Plan{}, nil, list, impl.State{}, 0)
		p, progs, way := eachKindAgain(t)
		states, _ := statesAhead(t, p, progs, way)
		checkAgainIs(t, "no marks", p, progs, list, states[0], 0)
		checkAgainIs(t, "nobody has a call", impl.Plan{Users: 2}, [][]impl.Call{nil, {}}, list, begun(t, impl.Plan{}, "", ""), 0)
	}
	// Where there is nothing no step is one.
	for _, x := range []impl.Step{{}, stepCall(0), stepEnd(0), stepAbort(0), stepLeg(0, 0), stepTick()} {
		checkAgainIs(t, x, impl.Plan{}, nil, marksOf(mark(x, impl.Reply{})), impl.State{}, 0)
		checkAgainIs(t, x, impl.Plan{Users: 1}, [][]impl.Call{nil}, marksOf(mark(x, impl.Reply{}), mark(x, impl.Reply{})), begun(t, impl.Plan{}, ""), 0)
	}
}

// stepsAtAll are kinds, clients, merges and legs at their edges, each with each.
func stepsAtAll() []impl.Step {
	var list []impl.Step
	for _, kind := range []int{-1, 0, 1, 2, 3, 4, 5, 6, 257, 1<<32 + 1} {
		for _, who := range []int{-1, 0, 1, 2, 3, 4, 64, math.MaxInt} {
			for _, leg := range []int{-1, 0, 1, math.MinInt} {
				list = append(list, impl.Step{Kind: kind, Who: who, Leg: leg})
			}
		}
	}
	return list
}

// TestAgainOfAStepThatIsNoneByHand has each step that is none at each place of a way.
func TestAgainOfAStepThatIsNoneByHand(t *testing.T) {
	p, progs, way := eachKindAgain(t)
	states, list := statesAhead(t, p, progs, way)
	none := 0
	for i, x := range way {
		for _, step := range stepsAtAll() {
			if slices.Contains(x.there, step) {
				continue
			}
			none++
			for _, reply := range []impl.Reply{x.reply, {Code: 4, N: 1}}[:1+none%2] {
				other := slices.Clone(list)
				other[i] = mark(step, reply)
				checkAgainIs(t, step, p, progs, other, states[i], i)
			}
		}
	}
	// Behind the last one there is none at all.
	for _, step := range stepsAtAll() {
		checkAgainIs(t, step, p, progs, append(slices.Clone(list), mark(step, impl.Reply{})), states[15], 15)
	}
	if places := len(way) * len(stepsAtAll()); none < places-60 || none >= places {
		t.Error("how many are none", none)
	}
}

// TestAgainOfAnotherStepByHand has steps that there are, but that tell something else, or behind which the next one is none.
func TestAgainOfAnotherStepByHand(t *testing.T) {
	p, progs, way := eachKindAgain(t)
	states, list := statesAhead(t, p, progs, way)
	other := func(change func(list []impl.Mark) []impl.Mark) []impl.Mark { return change(slices.Clone(list)) }
	swap := func(i int, j int) []impl.Mark {
		return other(func(list []impl.Mark) []impl.Mark {
			list[i], list[j] = list[j], list[i]
			return list
		})
	}
	without := func(i int) []impl.Mark {
		return other(func(list []impl.Mark) []impl.Mark { return slices.Delete(list, i, i+1) })
	}
	twice := func(i int) []impl.Mark {
		return other(func(list []impl.Mark) []impl.Mark { return slices.Insert(list, i, list[i]) })
	}
	start := states[0]
	checkAgainIs(t, "a tick ahead of its timer", p, progs, swap(1, 2), gone(t, start, stepCall(0)), 1)
	checkAgainIs(t, "an abort ahead of the tick", p, progs, swap(2, 3), states[2], 2)
	checkAgainIs(t, "an end ahead of the telling", p, progs, swap(5, 6), states[5], 5)
	checkAgainIs(t, "a leg ahead of its message", p, progs, swap(9, 10), states[9], 9)
	checkAgainIs(t, "an end ahead of the leg", p, progs, swap(10, 11), states[10], 10)
	checkAgainIs(t, "without its call an abort is none", p, progs, without(0), gone(t, start, stepCall(1), stepTick()), 2)
	checkAgainIs(t, "without its timer a tick is none", p, progs, without(1), gone(t, start, stepCall(0)), 1)
	checkAgainIs(t, "untold it is stored", p, progs, without(4), states[4], 4)
	checkAgainIs(t, "without its sub a recv does not wait", p, progs, without(7), states[7], 7)
	checkAgainIs(t, "a tick twice", p, progs, twice(2), states[3], 3)
	checkAgainIs(t, "a leg twice", p, progs, twice(10), states[11], 11)
	checkAgainIs(t, "one that waits calls again", p, progs, twice(0), states[1], 1)
	checkAgainIs(t, "one that is over ends again", p, progs, twice(6), states[7], 7)
	checkAgainIs(t, "the last one again", p, progs, twice(14), states[15], 15)
	// These two are of things apart, and tell the same wherever they stand.
	turned := gone(t, start, stepCall(1), stepCall(0))
	checkAgainIs(t, "turned", p, progs, swap(0, 1)[:2], turned, 2)
	if !sameState(turned, states[2]) {
		t.Error("turned, and another state", brief(turned))
	}
}

// repliesBut are such as are unlike just in one field.
func repliesBut(r impl.Reply) []impl.Reply {
	var list []impl.Reply
	but := func(change func(r *impl.Reply)) {
		d := r
		change(&d)
		list = append(list, d)
	}
	for _, x := range []int{1, -1, 8, 1 << 32, math.MinInt} {
		but(func(r *impl.Reply) { r.Code += x })
		but(func(r *impl.Reply) { r.N += x })
		but(func(r *impl.Reply) { r.M += x })
		but(func(r *impl.Reply) { r.Msg.Kind += x })
		but(func(r *impl.Reply) { r.Msg.Num += x })
	}
	for _, x := range []string{" ", "x", "\x00", "xx"} {
		but(func(r *impl.Reply) { r.Msg.Text += x })
	}
	if r.Msg.Text != "" {
		but(func(r *impl.Reply) { r.Msg.Text = "" })
		but(func(r *impl.Reply) { r.Msg.Text = "y" })
	}
	return list
}

// TestAgainOfAnotherReplyByHand has each field of each Reply another one, alone.
func TestAgainOfAnotherReplyByHand(t *testing.T) {
	p, progs, way := eachKindAgain(t)
	states, list := statesAhead(t, p, progs, way)
	kinds := map[int]int{}
	for i, x := range way {
		for _, reply := range repliesBut(x.reply) {
			other := slices.Clone(list)
			other[i].Reply = reply
			checkAgainIs(t, reply, p, progs, other, states[i], i)
			checkAgainIs(t, reply, p, progs, other[:i+1], states[i], i)
			kinds[x.step.Kind]++
		}
		if x.reply != (impl.Reply{}) {
			other := slices.Clone(list)
			other[i].Reply = impl.Reply{}
			checkAgainIs(t, "nothing told", p, progs, other, states[i], i)
		}
	}
	for kind := 1; kind <= 5; kind++ {
		if kinds[kind] < 20 {
			t.Error("of a kind", kind, kinds[kind])
		}
	}
}

// TestAgainOfSeveralFaultsByHand: the first one counts, whichever of both kinds it is of.
func TestAgainOfSeveralFaultsByHand(t *testing.T) {
	p, progs, way := eachKindAgain(t)
	states, list := statesAhead(t, p, progs, way)
	for i := range list {
		for j := range i + 1 {
			absent, otherwise := slices.Clone(list), slices.Clone(list)
			absent[j].Step, absent[i].Reply.N = impl.Step{Kind: 6}, 99
			otherwise[j].Reply.N, otherwise[i].Step = 99, stepCall(4)
			both, twice := slices.Clone(list), slices.Clone(list)
			both[i], both[j] = mark(stepEnd(-1), hears(7)), mark(stepLeg(0, 9), hears(7))
			twice[i].Reply.M, twice[j].Reply.Msg = 99, num(1<<40)
			for k, other := range [][]impl.Mark{absent, otherwise, both, twice} {
				checkAgainIs(t, k, p, progs, other, states[j], j)
			}
		}
	}
}

// TestAgainOfWhatStartRefuses has each reason by itself.
func TestAgainOfWhatStartRefuses(t *testing.T) {
	one := []impl.Call{asks(1, 0)}
	told := marksOf(mark(stepCall(0), impl.Reply{N: -1}))
	check := func(what any, ok bool, p impl.Plan, progs [][]impl.Call) {
		t.Helper()
		for n, list := range [][]impl.Mark{nil, told, {mark(impl.Step{}, impl.Reply{})}, slices.Repeat(told, 400)} {
			s, number := impl.Again(p, progs, list)
			if !ok && (number != -1 || !sameState(s, impl.State{})) {
				t.Error("taken", what, n, brief(s), number)
			}
			if ok && number != n%2 {
				t.Error("not taken", what, n, number)
			}
		}
	}
	programs := func(n int) [][]impl.Call { return slices.Repeat([][]impl.Call{one}, n) }
	users := func(n int) impl.Plan { return impl.Plan{Notes: 1, Users: n} }
	for n := 1; n <= 9; n++ {
		check(n, n <= 6, users(n), programs(n)[:n:n])
		check("a user more", false, users(n+1), programs(n))
		check("a user less", false, users(n-1), programs(n))
	}
	for _, n := range []int{-1, math.MinInt, math.MaxInt, 64, 65} {
		check("users", false, users(n), programs(2))
		check("users", false, users(n), nil)
	}
	for _, n := range []int{31, 32, 500} {
		for at := range 3 {
			progs := programs(3)
			progs[at] = slices.Repeat(one, n)
			check("long", false, users(3), progs)
		}
	}
	for i, c := range append(notCalls(), spoiltCalls(asks(impl.OpAwait, 0))...) {
		progs := programs(3)
		progs[i%3] = slices.Insert(slices.Repeat(one, 5), i%6, c)
		check("no call", false, users(3), progs)
	}
	for i, x := range buildFaults() {
		p := clonePlan(greatPlan())
		p.Users = 3
		x.change(&p)
		check(i, false, p, programs(3))
	}
}

// legsPlan has 24 legs, so that what is published goes on for long.
func legsPlan() impl.Plan {
	p := impl.Plan{Names: strings.Split("a b c d e f g h i j k l", " "), Caps: slices.Repeat([]int{16}, 12), Users: 1}
	for into := range 4 {
		p.Weaves = append(p.Weaves, impl.Weave{From: upTo(0, 6), Into: 6 + into})
	}
	return p
}

// legsProgs has one client who publishes to all.
func legsProgs(n int) [][]impl.Call {
	return [][]impl.Call{slices.Repeat([]impl.Call{publishes(">", num(7))}, n)}
}

func TestAgainOfManyMarksByHand(t *testing.T) {
	p, progs := legsPlan(), legsProgs(30)
	s, code := impl.Start(p, progs)
	end, list := impl.Run(s, make([]int, 400))
	if code != impl.Done || len(list) != 400 {
		t.Fatal("not as long", code, len(list))
	}
	behind, more := impl.Run(end, []int{0, 0})
	if len(more) != 2 || impl.StateSame(behind, end) {
		t.Fatal("it rests", len(more))
	}
	all := append(slices.Clone(list), more...)
	last, _ := impl.Run(s, make([]int, 399))
	checkAgainIs(t, "one less", p, progs, all[:399], last, 399)
	checkAgainIs(t, "as many", p, progs, all[:400], end, 400)
	checkAgainIs(t, "one more", p, progs, all[:401], impl.State{}, -1)
	checkAgainIs(t, "two more", p, progs, all[:402], impl.State{}, -1)
	checkAgainIs(t, "far more", p, progs, slices.Repeat(all, 20), impl.State{}, -1)
	// It does not matter whether they could be taken.
	all[0].Step = stepEnd(3)
	checkAgainIs(t, "as many, the first is none", p, progs, all[:400], s, 0)
	checkAgainIs(t, "one more, the first is none", p, progs, all[:401], impl.State{}, -1)
	checkAgainIs(t, "one more, and not started", impl.Plan{Users: 9}, progs, all[:401], impl.State{}, -1)
	list[399].Reply.M = 1
	checkAgainIs(t, "as many, the last is another one", p, progs, list, last, 399)
	list[200].Step.Leg = 9
	half, _ := impl.Run(s, make([]int, 200))
	checkAgainIs(t, "as many, one in the middle is none", p, progs, list, half, 200)
}

// picksOf are the picks by which just these steps are taken.
func picksOf(t *testing.T, s impl.State, steps ...impl.Step) []int {
	t.Helper()
	var picks []int
	for _, x := range steps {
		at := slices.Index(impl.Steps(s), x)
		if at < 0 {
			t.Fatal("no step", x, impl.Steps(s))
		}
		s, picks = gone(t, s, x), append(picks, at)
	}
	return picks
}

func checkTurnedIs(t *testing.T, what any, s impl.State, picks []int, at int, want impl.State, ok bool) {
	t.Helper()
	if got, is := impl.Turned(s, picks, at); is != ok || !sameState(got, want) {
		t.Errorf("%v: at %d of %d: %s, %v; want %s, %v", what, at, len(picks), brief(got), is, brief(want), ok)
	}
}

// checkTwo wants two steps behind others to be turned, or not.
func checkTwo(t *testing.T, what any, s impl.State, ahead []impl.Step, first impl.Step, second impl.Step, ok bool) {
	t.Helper()
	picks := picksOf(t, s, append(slices.Clone(ahead), first, second)...)
	want := s
	if ok {
		want = gone(t, s, append(slices.Clone(ahead), second, first)...)
	}
	checkTurnedIs(t, what, s, picks, len(ahead), want, ok)
	// What is picked behind both does not matter.
	checkTurnedIs(t, what, s, append(slices.Clone(picks), 0, 1, 2, -7), len(ahead), want, ok)
	checkTurnedIs(t, what, s, picks[:len(picks)-1], len(ahead), s, false)
	// Neither does where they begin.
	here, _ := impl.Run(s, picks[:len(ahead)])
	if !ok {
		want = here
	}
	checkTurnedIs(t, what, here, picks[len(ahead):], 0, want, ok)
}

func TestTurnedAtEachPlaceByHand(t *testing.T) {
	s := begun(t, impl.Plan{Notes: 2, Vals: nums(0)}, "tell 0\ntell 1\n", "add 0 1\nadd 0 2\n")
	zero, one := stepCall(0), stepCall(1)
	all := gone(t, s, zero, one, zero, one)
	picks := []int{0, 1, 0, 0}
	least, greatest := math.MinInt, math.MaxInt
	for _, more := range [][]int{nil, {0}, {5, -5, 0, 1, 2, 3}, make([]int, 396)} {
		list := append(slices.Clone(picks), more...)
		checkTurnedIs(t, "at 0", s, list, 0, gone(t, s, one, zero), true)
		checkTurnedIs(t, "in the middle", s, list, 1, gone(t, s, zero, zero, one), true)
		checkTurnedIs(t, "the last two", s, list, 2, gone(t, s, zero, one, one, zero), true)
		for _, at := range []int{-1, -2, -4, least, least + 1, 3, 4, 5, 6, 9, 10, 99, 398, 399, 400, 401, greatest - 2, greatest - 1, greatest, 1 << 32} {
			checkTurnedIs(t, "no two", s, list, at, s, false)
		}
	}
	if !sameState(gone(t, s, zero, one, one, zero), all) || !sameState(gone(t, s, one, zero), gone(t, s, zero, one)) {
		t.Error("another state")
	}
	// Fewer picks than two behind it, though there are more steps.
	for n := range 4 {
		for at := -1; at <= 5; at++ {
			if at < 0 || at+2 > n {
				checkTurnedIs(t, "fewer picks", s, picks[:n], at, s, false)
			}
		}
	}
	// More picks than there may be.
	for _, n := range []int{401, 402, 1000, 100000} {
		for _, at := range []int{-1, 0, 1, 2, 3, 399, 400, n - 2, n - 1, n} {
			checkTurnedIs(t, "too many picks", s, append(slices.Clone(picks), make([]int, n-4)...), at, s, false)
		}
	}
	// Picks may be any numbers.
	checkTurnedIs(t, "far numbers", s, []int{least, greatest, 7}, 0, gone(t, s, one, zero), true)
	checkTurnedIs(t, "far numbers", s, []int{-2, -1, 8}, 1, gone(t, s, zero, zero, one), true)
}

func TestTurnedOfTwoClientsByHand(t *testing.T) {
	p := impl.Plan{Tokens: []int{-1, 0}, Notes: 2, Autos: []bool{true, false}, Counts: []int{2}, Vals: nums(3, 4), Names: []string{"a", "b"}, Caps: []int{2, 2}}
	zero, one := stepCall(0), stepCall(1)
	for _, x := range []struct {
		a, b string
		same bool
	}{
		// On the same thing.
		{"tell 0", "tell 0", false}, {"tell 0", "tellall 0", true}, {"await 0", "await 0", false}, {"raise 0", "raise 0", true}, {"raise 1", "reset 1", false}, {"stand 0", "stand 0", false}, {"down 0 1", "down 0 1", true}, {"down 0 2", "latch 0", false}, {"put 0 5", "put 0 6", false}, {"add 0 5", "add 0 6", true}, {"put 0 5", "look 0", false}, {"watch 0", "watch 0", false}, {"shut 0", "put 0 1", false},
		{"pub a 1", "pub a 2", true}, {"pub a 1", "sub 0", false}, {"close 0", "pub a 1", false}, {"sub 0", "sub 0", false}, {"cancel 0", "cancel 1", true}, {"cancel 1", "cancel 0", true}, {"timer 3 0", "timer 3 1", false}, {"timer 3 0", "timer 4 0", true}, {"tell 0", "await 0", false}, {"await 0", "raise 0", true},
		// On things of one kind.
		{"tell 0", "tell 1", true}, {"await 0", "await 1", true}, {"raise 0", "raise 1", true}, {"stand 0", "reset 1", true}, {"put 0 5", "add 1 6", true}, {"watch 0", "look 1", true}, {"pub a 1", "pub b 2", true}, {"sub 0", "sub 1", true}, {"close 0", "pub b 1", true},
		// On things of different kinds.
		{"tell 0", "add 0 1", true}, {"put 0 7", "await 0", true}, {"raise 0", "watch 0", true}, {"shut 1", "down 0 2", true}, {"look 1", "latch 0", true}, {"pub > 3", "tell 1", true}, {"sub 1", "stand 0", true}, {"cancel 0", "timer 1 0", true}, {"timer 2 1", "put 0 9", true}, {"raise 1", "down 0 1", true}, {"cancel 0", "await 0 by 1", false}, {"await 1 by 0", "cancel 0", false},
		// Refused, the one or the other.
		{"tell 7", "tell 0", true}, {"add 0 1", "look 9", true}, {"recv 0", "unsub 3", true}, {"tell 7", "tell 7", true},
	} {
		s := begun(t, p, x.a+"\n", x.b+"\ntell 1\n", "look 0\n")
		what := x.a + ", " + x.b
		checkTwo(t, what, s, nil, zero, one, true)
		checkTwo(t, what, s, nil, one, zero, true)
		checkTwo(t, what, s, []impl.Step{stepCall(2)}, zero, one, true)
		checkTwo(t, what, s, []impl.Step{stepCall(2)}, one, zero, true)
		// Whether they may be turned does not hang on whether they come to the same.
		if same := sameState(gone(t, s, zero, one), gone(t, s, one, zero)); same != x.same && x.a != x.b {
			t.Error("the same, or not", what, same)
		}
	}
}

func TestTurnedOfOneClientByHand(t *testing.T) {
	p := impl.Plan{Tokens: []int{-1}, Notes: 1, Autos: []bool{true}, Names: []string{"a"}, Caps: []int{2}}
	zero, one := stepCall(0), stepCall(1)
	steps := func(list ...impl.Step) []impl.Step { return list }
	s := begun(t, p, "await 0 by 0\ntell 0\nraise 0\n", "tell 0\ncancel 0\n")
	checkTwo(t, "a call and a call", s, steps(one, one), zero, zero, false)
	checkTwo(t, "a call and a call", begun(t, p, "tell 0\nawait 0\nraise 0\n"), nil, zero, zero, false)
	checkTwo(t, "a call and a call of another kind", begun(t, p, "tell 0\nawait 0\nraise 0\n"), steps(zero), zero, zero, false)
	checkTwo(t, "an end and a call", s, steps(zero, one), stepEnd(0), zero, false)
	checkTwo(t, "an abort and a call", s, steps(zero, one, one), stepAbort(0), zero, false)
	checkTwo(t, "an end and a call, and it could abort", s, steps(zero, one, one), stepEnd(0), zero, false)
	off := begun(t, p, "await 0 by 0\nraise 0\n", "timer 1 0\n")
	checkTwo(t, "a call of who waits, behind a tick an abort", off, steps(one, zero), stepTick(), stepAbort(0), false)
	again := waitsAgain()
	checkTwo(t, "an end that must wait once more, and an abort", again, steps(stepEnd(0)), stepEnd(1), stepAbort(1), false)
	checkTwo(t, "an end that must wait once more, and another's", again, nil, stepEnd(0), stepEnd(1), true)
	checkTwo(t, "an end that must wait once more, and another's abort", again, nil, stepEnd(0), stepAbort(1), true)
	checkTwo(t, "another's end that must wait once more", again, nil, stepEnd(1), stepEnd(0), true)
}

func TestTurnedOfLegsAndTicksByHand(t *testing.T) {
	p := runPlan()
	steps := func(list ...impl.Step) []impl.Step { return list }
	zero, one, tick := stepCall(0), stepCall(1), stepTick()
	s := begun(t, p, "pub a 1\npub b 2\npub a 3\ntimer 4 0\ntimer 9 2\n", "await 0 by 1\ntell 1\n", "tell 1\n")
	first := steps(zero)
	both := steps(zero, zero)
	all := steps(zero, zero, zero, zero, zero)
	checkTwo(t, "a client and a leg", s, first, stepCall(2), stepLeg(0, 0), true)
	checkTwo(t, "a leg and a client", s, first, stepLeg(0, 0), stepCall(2), true)
	checkTwo(t, "its message and the leg", s, nil, zero, stepLeg(0, 0), false)
	checkTwo(t, "another message and the leg", s, steps(zero, stepLeg(0, 0)), zero, stepLeg(0, 1), false)
	checkTwo(t, "another message and a leg that is ready", s, first, zero, stepLeg(0, 0), true)
	checkTwo(t, "two legs of a merge", s, both, stepLeg(0, 0), stepLeg(0, 1), true)
	checkTwo(t, "two legs of a merge", s, both, stepLeg(0, 1), stepLeg(0, 0), true)
	checkTwo(t, "legs of two merges", s, steps(zero, zero, stepLeg(0, 0)), stepLeg(0, 1), stepLeg(1, 0), true)
	checkTwo(t, "a leg, and the one that reads it", s, both, stepLeg(0, 0), stepLeg(1, 0), false)
	checkTwo(t, "one leg twice", s, steps(zero, zero, zero), stepLeg(0, 0), stepLeg(0, 0), false)
	checkTwo(t, "its timer and the tick", s, steps(zero, zero, zero), zero, tick, false)
	checkTwo(t, "another timer and the tick", s, steps(zero, zero, zero, zero), zero, tick, true)
	checkTwo(t, "a tick and another timer", s, steps(zero, zero, zero, zero), tick, zero, true)
	checkTwo(t, "two ticks", s, all, tick, tick, false)
	checkTwo(t, "a tick and a client", s, all, tick, stepCall(2), true)
	checkTwo(t, "a client and a tick", s, all, one, tick, true)
	checkTwo(t, "a leg and a tick", s, all, stepLeg(0, 1), tick, true)
	checkTwo(t, "a tick and a leg", s, all, tick, stepLeg(0, 0), true)
	checkTwo(t, "a tick, and who is called off by it", s, append(slices.Clone(all), one), tick, stepAbort(1), false)
	checkTwo(t, "who is called off, and the next tick", s, append(slices.Clone(all), one, tick), stepAbort(1), tick, true)
}

// TestTurnedWhereOneHangsOnTheOtherByHand: the second is none until the first is taken, or the first none any more behind the second.
func TestTurnedWhereOneHangsOnTheOtherByHand(t *testing.T) {
	p := impl.Plan{Tokens: []int{-1}, Notes: 1, Autos: []bool{true, false}, Counts: []int{1}, Vals: nums(3), Names: []string{"a"}, Caps: []int{2}}
	steps := func(list ...impl.Step) []impl.Step { return list }
	zero, one := stepCall(0), stepCall(1)
	for _, x := range [][2]string{{"await 0", "tell 0"}, {"await 0", "tellall 0"}, {"stand 0", "raise 0"}, {"stand 1", "raise 1"}, {"latch 0", "down 0 1"}, {"watch 0", "put 0 1"}, {"watch 0", "shut 0"}} {
		s := begun(t, p, x[0]+"\n", x[1]+"\nlook 0\n", "tell 0\n")
		checkTwo(t, x, s, steps(zero), one, stepEnd(0), false)
		checkTwo(t, x, s, steps(zero, one), one, stepEnd(0), true)
		checkTwo(t, x, s, steps(zero, one), stepEnd(0), one, true)
		checkTwo(t, x, s, nil, zero, one, true)
	}
	s := begun(t, p, "sub 0\nrecv 0 by 0\n", "pub a 1\ncancel 0\n")
	checkTwo(t, "a message", s, steps(zero, zero), one, stepEnd(0), false)
	checkTwo(t, "called off", s, steps(zero, zero, one), one, stepAbort(0), false)
	checkTwo(t, "called off, and it has a message", s, steps(zero, zero, one), one, stepEnd(0), true)
	// By hand only: two clients that have one subscription, which the second gives up.
	shared := begun(t, p, "sub 0\nrecv 0\n", "look 0\nunsub 0\n", "pub a 1\n")
	shared = gone(t, shared, zero, zero, stepCall(2))
	shared.Hub.Users[1].Subs = slices.Clone(shared.Hub.Users[0].Subs)
	checkTwo(t, "an end, and another looks elsewhere", shared, nil, stepEnd(0), one, true)
	checkTwo(t, "an end, and another gives it up", shared, steps(one), stepEnd(0), one, false)
	// A client that has a merge's Sub: behind its giving up nothing goes on.
	h, _, _ := impl.Build(impl.Plan{Names: []string{"a", "b"}, Caps: []int{1, 1}, Weaves: []impl.Weave{{From: []int{0}, Into: 1}}, Users: 2})
	h.Users[0].Subs = hits([2]int{0, 0})
	own := impl.State{Hub: h, Clients: []impl.Client{{Prog: []impl.Call{takes(impl.OpUnsub, 0)}}, {Prog: []impl.Call{publishes("a", num(1)), asks(impl.OpLook, 0)}}}}
	checkTwo(t, "another's call, and the giving up", own, nil, one, zero, false)
	checkTwo(t, "a leg, and the giving up", own, steps(one), stepLeg(0, 0), zero, false)
	checkTurnedIs(t, "behind the giving up", own, []int{0, 0, 0}, 0, own, false)
}

func TestTurnedWithoutStepsByHand(t *testing.T) {
	rest, _ := impl.Run(twoInTurn(t), make([]int, 5))
	for i, s := range []impl.State{{}, begun(t, runPlan(), "", ""), begun(t, impl.Plan{}), rest, begun(t, runPlan(), "tell 0\n", "")} {
		for at := -1; at <= 3; at++ {
			for n := range 5 {
				checkTurnedIs(t, i, s, make([]int, n), at, s, false)
			}
		}
	}
}

func checkCalmIs(t *testing.T, what any, s impl.State, most int, want impl.State, number int) {
	t.Helper()
	if got, n := impl.Calm(s, most); n != number || !sameState(got, want) {
		t.Errorf("%v: most %d: %s, %d; want %s, %d", what, most, brief(got), n, brief(want), number)
	}
}

// farFrom are numbers for most that are refused.
func farFrom() []int {
	return []int{-1, -2, -400, math.MinInt, math.MinInt + 1, 401, 402, 1000, 1 << 32, 1<<32 + 1, math.MaxInt - 1, math.MaxInt}
}

func TestCalmByHand(t *testing.T) {
	s := twoInTurn(t)
	way := []impl.Step{stepCall(0), stepCall(0), stepCall(1), stepCall(1), stepEnd(0)}
	for n := range 6 {
		checkCalmIs(t, "in turn", s, n, gone(t, s, way[:n]...), n)
	}
	for _, n := range []int{6, 7, 100, 398, 399, 400} {
		checkCalmIs(t, "more than there are", s, n, gone(t, s, way...), 5)
	}
	for _, n := range farFrom() {
		checkCalmIs(t, "too many, or below 0", s, n, s, -1)
	}
	// The clients go first, by their numbers, then the legs, then the tick.
	p := runPlan()
	s = begun(t, p, "await 0\ntell 1\n", "pub a 1\ntimer 2 0\ntimer 2 2\n", "tell 0\nawait 1 by 0\nstand 0 by 2\n")
	way = []impl.Step{stepCall(0), stepCall(1), stepCall(1), stepCall(1), stepCall(2), stepEnd(0), stepCall(0), stepCall(2), stepCall(2), stepLeg(0, 0), stepLeg(1, 0), stepTick(), stepAbort(2)}
	for n := range len(way) + 1 {
		checkCalmIs(t, "one of each kind", s, n, gone(t, s, way[:n]...), n)
	}
	for _, n := range []int{14, 20, 400} {
		checkCalmIs(t, "at rest", s, n, gone(t, s, way...), 13)
	}
	end, _ := impl.Calm(s, 400)
	if !impl.Quiet(end) || len(impl.Stuck(end)) != 0 {
		t.Error("does not rest", brief(end))
	}
	// One who can end or abort ends.
	kinds, there := stepsOfEachKind(t)
	checkCalmIs(t, "an end ahead of an abort", kinds, 1, gone(t, kinds, there[0]), 1)
	checkCalmIs(t, "an end behind an end", kinds, 2, gone(t, kinds, there[0], stepEnd(1)), 2)
}

func TestCalmWithoutClientsByHand(t *testing.T) {
	for _, n := range []int{0, 1, 2, 399, 400} {
		checkCalmIs(t, "nothing", impl.State{}, n, impl.State{}, 0)
		s := begun(t, runPlan())
		checkCalmIs(t, "nobody", s, n, s, 0)
		idle := begun(t, runPlan(), "", "", "")
		checkCalmIs(t, "nobody has a call", idle, n, idle, 0)
		rest := gone(t, begun(t, impl.Plan{Notes: 1}, "await 0\n"), stepCall(0))
		checkCalmIs(t, "one waits for ever", rest, n, rest, 0)
	}
	for _, n := range farFrom() {
		checkCalmIs(t, "nothing", impl.State{}, n, impl.State{}, -1)
	}
	// What goes on by itself.
	s := begun(t, runPlan())
	s.Hub.Clock = clock(1, [2]int{3, 0}, [2]int{3, 2}, [2]int{8, 1})
	for n := range 4 {
		checkCalmIs(t, "ticks", s, n, gone(t, s, slices.Repeat([]impl.Step{stepTick()}, min(n, 2))...), min(n, 2))
	}
	legs := gone(t, begun(t, runPlan(), "pub a 1\npub b 2\n"), stepCall(0), stepCall(0))
	legs.Hub.Users, legs.Clients = nil, nil
	way := []impl.Step{stepLeg(0, 0), stepLeg(0, 1), stepLeg(1, 0), stepLeg(1, 0)}
	for n := range 7 {
		checkCalmIs(t, "legs", legs, n, gone(t, legs, way[:min(n, 4)]...), min(n, 4))
	}
}

func TestCalmThatNeverRestsByHand(t *testing.T) {
	s, code := impl.Start(legsPlan(), legsProgs(30))
	if code != impl.Done {
		t.Fatal("not started", code)
	}
	for _, n := range []int{1, 29, 30, 31, 399, 400} {
		end, marks := impl.Run(s, make([]int, n))
		checkCalmIs(t, "goes on", s, n, end, n)
		if len(marks) != n || impl.Quiet(end) {
			t.Error("rests", n, len(marks))
		}
	}
	checkCalmIs(t, "one more", s, 401, s, -1)
	// 16 publishings and 24 legs for each are just as many as there may be; with one more it does not rest.
	for n := 14; n <= 17; n++ {
		s, _ := impl.Start(legsPlan(), legsProgs(n))
		end, taken := impl.Calm(s, 400)
		if taken != min(25*n, 400) || impl.Quiet(end) != (n <= 16) {
			t.Error("how many", n, taken, impl.Quiet(end))
		}
	}
}

// TestAgainOfWrongStatesByHand: no steps, so nothing is taken or turned, and all is handed back.
func TestAgainOfWrongStatesByHand(t *testing.T) {
	for i, x := range wrongStates() {
		for _, n := range []int{0, 1, 400} {
			checkCalmIs(t, x.why, x.s, n, x.s, 0)
		}
		for _, n := range []int{-1, 401, farFrom()[i%len(farFrom())]} {
			checkCalmIs(t, x.why, x.s, n, x.s, -1)
		}
		for _, picks := range [][]int{nil, {1, 0, 2, -9, math.MaxInt, math.MinInt}, make([]int, 400), make([]int, 401)} {
			for _, at := range []int{-1, 0, i % 400, math.MaxInt - i} {
				checkTurnedIs(t, x.why, x.s, picks, at, x.s, false)
			}
		}
	}
}
