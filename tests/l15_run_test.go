package tests

import (
	"fmt"
	"math"
	"math/rand/v2"
	"reflect"
	"runtime"
	"slices"
	"sync"
	"testing"

	"loop.example/g00098/impl"
)

func progIsRight(list []impl.Call) bool { return allAre(list, 30, callIsRight) }

// clientIsRight lists where a client may stand, and where it may wait.
func clientIsRight(c impl.Client) bool {
	for at := range len(c.Prog) + 1 {
		if at == c.At && (!c.Waiting || at < len(c.Prog) && mayBlock(c.Prog[at].Op)) {
			return progIsRight(c.Prog)
		}
	}
	return false
}

func stateIsRight(s impl.State) bool {
	return hubIsRight(s.Hub) && len(s.Clients) == len(s.Hub.Users) && allAre(s.Clients, 6, clientIsRight)
}

func startBy(p impl.Plan, progs [][]impl.Call) (impl.State, int) {
	h, code, _ := buildBy(p)
	s := impl.State{Hub: h, Clients: make([]impl.Client, len(progs))}
	for i, list := range progs {
		s.Clients[i].Prog = cloneCalls(list)
	}
	if code != impl.Done || !stateIsRight(s) {
		return impl.State{}, impl.Bad
	}
	return s, impl.Done
}

// isStep is asked of a right state.
func isStep(s impl.State, x impl.Step) bool {
	switch {
	case x.Who < 0, x.Leg < 0, x.Kind == 4 && x.Who >= len(s.Hub.Merges), x.Kind != 4 && x.Leg > 0, x.Kind < 4 && x.Who >= len(s.Clients):
		return false
	case x.Kind == 4:
		return slices.Contains(readyBy(s.Hub.Topics, s.Hub.Merges[x.Who]), x.Leg)
	case x.Kind == 5:
		return x.Who == 0 && len(s.Hub.Clock.Timers) > 0
	case x.Kind > 5, s.Clients[x.Who].At == len(s.Clients[x.Who].Prog):
		return false
	}
	c := s.Clients[x.Who]
	call := c.Prog[c.At]
	switch x.Kind {
	case 1:
		return !c.Waiting
	case 2:
		return c.Waiting && freeBy(s.Hub, x.Who, call)
	case 3:
		return c.Waiting && call.Tok >= 0 && call.Tok < len(s.Hub.Tokens.Off) && s.Hub.Tokens.Off[call.Tok]
	}
	return false
}

// stepsBy looks at all that there could be.
func stepsBy(s impl.State) []impl.Step {
	if !stateIsRight(s) {
		return nil
	}
	var all []impl.Step
	for who := range 6 {
		all = append(all, stepCall(who), stepEnd(who), stepAbort(who))
	}
	for merge := range 4 {
		for leg := range 6 {
			all = append(all, stepLeg(merge, leg))
		}
	}
	return slices.DeleteFunc(append(all, stepTick()), func(x impl.Step) bool { return !isStep(s, x) })
}

// takeAnswer is what Take answers.
type takeAnswer struct {
	s  impl.State
	r  impl.Reply
	ok bool
}

func takeOf(s impl.State, x impl.Step) takeAnswer {
	d, r, ok := impl.Take(s, x)
	return takeAnswer{d, r, ok}
}

func takeBy(s impl.State, x impl.Step) takeAnswer {
	a := takeAnswer{s: cloneState(s)}
	if !stateIsRight(s) || !isStep(s, x) {
		return a
	}
	a.ok = true
	switch x.Kind {
	case 4:
		moved := forwardBy(s.Hub.Topics, s.Hub.Merges[x.Who], x.Leg)
		a.s.Hub.Topics, a.s.Hub.Merges[x.Who], a.r.Code = moved.list, moved.m, moved.code
		return a
	case 5:
		tickBy(&a)
		return a
	}
	c := &a.s.Clients[x.Who]
	told := []func(impl.Hub, int, impl.Call) hubAnswer{1: doBy, 2: endBy, 3: abortBy}[x.Kind](s.Hub, x.Who, c.Prog[c.At])
	a.s.Hub, a.r = told.h, told.r
	switch {
	case x.Kind == 1 && told.r.Code == impl.Waits:
		c.Waiting = true
	case x.Kind == 2 && told.r.Code == impl.Waits:
	default:
		c.At, c.Waiting = c.At+1, false
	}
	return a
}

// tickBy looks at each token whether one of those whose time it is stands above it.
func tickBy(a *takeAnswer) {
	c, x := &a.s.Hub.Clock, &a.s.Hub.Tokens
	c.Now = c.Timers[0].At
	for _, timer := range c.Timers {
		for i := range x.Off {
			if timer.At == c.Now && !x.Off[i] && timer.Token < len(x.Off) && standsUnder(x.Parents, i, timer.Token) {
				x.Off[i] = true
				a.r.M++
			}
		}
	}
	c.Timers = slices.DeleteFunc(c.Timers, func(x impl.Timer) bool { return x.At == c.Now })
	a.r.N = c.Now
}

func runBy(s impl.State, picks []int) (impl.State, []impl.Mark) {
	d := cloneState(s)
	var marks []impl.Mark
	for i := 0; i < len(picks) && len(picks) < 401; i++ {
		steps := stepsBy(d)
		if len(steps) == 0 {
			break
		}
		x := steps[(picks[i]%len(steps)+len(steps))%len(steps)]
		a := takeBy(d, x)
		d, marks = a.s, append(marks, impl.Mark{Step: x, Reply: a.r})
	}
	return d, marks
}

// alike goes through all that two values are made of; an empty list and none are alike.
func alike(a reflect.Value, b reflect.Value) bool {
	switch a.Kind() {
	case reflect.Struct:
		for i := range a.NumField() {
			if !alike(a.Field(i), b.Field(i)) {
				return false
			}
		}
		return true
	case reflect.Slice:
		if a.Len() != b.Len() {
			return false
		}
		for i := range a.Len() {
			if !alike(a.Index(i), b.Index(i)) {
				return false
			}
		}
		return true
	}
	return a.Interface() == b.Interface()
}

func statesAlike(a impl.State, b impl.State) bool {
	return alike(reflect.ValueOf(a), reflect.ValueOf(b))
}

// eachChange changes the number, flag, text or list at each place of a value, one at a time, and changes it back.
func eachChange(x reflect.Value, visit func()) {
	before := reflect.New(x.Type()).Elem()
	before.Set(x)
	set := func(y reflect.Value) {
		x.Set(y)
		visit()
		x.Set(before)
	}
	switch x.Kind() {
	case reflect.Int:
		for _, more := range []int64{1, -1, 1 << 32} {
			set(reflect.ValueOf(int(before.Int() + more)))
		}
	case reflect.Bool:
		set(reflect.ValueOf(!before.Bool()))
	case reflect.String:
		set(reflect.ValueOf(before.String() + " "))
		set(reflect.ValueOf("z" + before.String()))
	case reflect.Struct:
		for i := range x.NumField() {
			eachChange(x.Field(i), visit)
		}
	case reflect.Slice:
		eachListChange(before, set)
		for i := range x.Len() {
			eachChange(x.Index(i), visit)
		}
	}
}

// eachListChange has one more behind it or ahead, one less, and two neighbours that are unlike turned.
func eachListChange(list reflect.Value, set func(y reflect.Value)) {
	n, fresh := list.Len(), func() reflect.Value { return reflect.MakeSlice(list.Type(), 0, list.Len()+1) }
	none := reflect.Zero(list.Type().Elem())
	set(reflect.Append(reflect.AppendSlice(fresh(), list), none))
	set(reflect.AppendSlice(reflect.Append(fresh(), none), list))
	if n > 0 {
		set(list.Slice(0, n-1))
		set(list.Slice(1, n))
	}
	for i := range max(n-1, 0) {
		if !alike(list.Index(i), list.Index(i+1)) {
			turned := reflect.AppendSlice(fresh(), list)
			turned.Index(i).Set(list.Index(i + 1))
			turned.Index(i + 1).Set(list.Index(i))
			set(turned)
		}
	}
}

// TestStatesThatDifferAnywhere holds StateSame against a second way, at all that a state can differ in.
func TestStatesThatDifferAnywhere(t *testing.T) {
	kinds, _ := stepsOfEachKind(t)
	for i, s := range []impl.State{handState(), kinds, waitsAgain(), legState()} {
		d, n := cloneState(s), 0
		eachChange(reflect.ValueOf(&d).Elem(), func() {
			n++
			if impl.StateSame(s, d) || impl.StateSame(d, s) || statesAlike(s, d) {
				t.Fatalf("%d: the same: %s\n%s", i, brief(s), brief(d))
			}
			if !impl.StateSame(d, d) {
				t.Fatalf("%d: not the same as itself: %s", i, brief(d))
			}
		})
		if !impl.StateSame(s, d) || n < 200 {
			t.Error("how many changes", i, n)
		}
	}
}

var fillClient = impl.Client{Prog: []impl.Call{fillCall}, At: filler}

func roomyState(s impl.State) impl.State {
	return impl.State{Hub: roomyHub(s.Hub), Clients: roomyEach(s.Clients, fillClient, func(c impl.Client) impl.Client {
		c.Prog = roomyCalls(c.Prog)
		return c
	})}
}

// wholeState has the room behind each list as a part of it; it is the same memory.
func wholeState(s impl.State) impl.State {
	return impl.State{Hub: wholeHub(s.Hub), Clients: cloneEach(roomOf(s.Clients), func(c impl.Client) impl.Client {
		c.Prog = wholeCalls(c.Prog)
		return c
	})}
}

func statePlaces(s impl.State) []*int {
	return append(hubPlaces(s.Hub), placesIn(s.Clients, func(c *impl.Client) []*int { return append(callPlaces(c.Prog), &c.At) })...)
}

// spoilState changes all that a state's lists have, and tells whether no two of them share memory.
func spoilState(s impl.State) bool {
	apart := lieApart(statePlaces(s))
	spoilHub(s.Hub)
	spoilWith(s.Clients, func(c impl.Client) impl.Client { return impl.Client{At: filler + 1} })
	return apart
}

// stateGiven is what was handed in, and how it was ahead of the call.
type stateGiven struct {
	s      impl.State
	before impl.State
}

func giveState(s impl.State) stateGiven {
	g := stateGiven{s: roomyState(s)}
	g.before = cloneState(wholeState(g.s))
	return g
}

func (g stateGiven) checkKept(t *testing.T, what string) {
	t.Helper()
	if !sameState(wholeState(g.s), g.before) {
		t.Fatalf("%s: what was handed in has changed: %s", what, brief(g.before))
	}
}

// checkState holds a state that is answered against the one that is wanted, and spoils it then: where that is shared with what was handed in, that has changed.
func (g stateGiven) checkState(t *testing.T, what string, got impl.State, want impl.State) {
	t.Helper()
	if !sameState(got, want) {
		t.Fatalf("%s\nof %s\n= %s\nwant %s", what, brief(g.s), brief(got), brief(want))
	}
	if !spoilState(got) {
		t.Fatalf("%s: two lists of the answer share memory: %s", what, brief(g.before))
	}
	g.checkKept(t, what)
}

func (g stateGiven) checkSteps(t *testing.T, s impl.State) {
	t.Helper()
	want := stepsBy(s)
	for range 2 {
		got := impl.Steps(g.s)
		if !slices.Equal(got, want) {
			t.Fatalf("Steps(%s)\n= %v\nwant %v", brief(s), got, want)
		}
		spoilWith(got, func(impl.Step) impl.Step { return impl.Step{Kind: filler} })
		g.checkKept(t, "Steps")
	}
	if ok := impl.StateOk(g.s); ok != stateIsRight(s) {
		t.Fatalf("StateOk(%s) = %v", brief(s), ok)
	}
	if !impl.StateSame(g.s, s) || !impl.StateSame(s, g.s) {
		t.Fatalf("not the same as itself: %s", brief(s))
	}
	g.checkKept(t, "StateOk, StateSame")
}

func (g stateGiven) checkTake(t *testing.T, s impl.State, x impl.Step) {
	t.Helper()
	what := fmt.Sprintf("Take %+v", x)
	want := takeBy(s, x)
	for range 2 {
		got := takeOf(g.s, x)
		if got.r != want.r || got.ok != want.ok {
			t.Fatalf("%s of %s\n= %+v, %v\nwant %+v, %v", what, brief(s), got.r, got.ok, want.r, want.ok)
		}
		g.checkState(t, what, got.s, want.s)
	}
}

func (g stateGiven) checkRun(t *testing.T, s impl.State, picks []int) {
	t.Helper()
	what := "Run " + brief(picks)
	given := roomy(picks)
	want, wantMarks := runBy(s, picks)
	for range 2 {
		got, marks := impl.Run(g.s, given)
		if !slices.Equal(marks, wantMarks) {
			t.Fatalf("%s of %s\n= %s\nwant %s", what, brief(s), brief(marks), brief(wantMarks))
		}
		g.checkState(t, what, got, want)
		spoilWith(marks, func(impl.Mark) impl.Mark { return impl.Mark{Step: impl.Step{Kind: filler}} })
		g.checkKept(t, what)
		if !roomKeptWith(given, picks, filler) {
			t.Fatalf("%s writes into its picks", what)
		}
	}
}

// stepsAround are those that there are, and for each such as are like it.
func stepsAround(s impl.State) []impl.Step {
	list := []impl.Step{{}, stepCall(0), stepEnd(0), stepAbort(0), stepLeg(0, 0), stepTick(), stepCall(-1), stepEnd(-1), stepAbort(-1), stepLeg(-1, 0), stepLeg(0, -1), stepCall(len(s.Clients)), stepEnd(len(s.Clients)), stepAbort(len(s.Clients)), stepLeg(len(s.Hub.Merges), 0), stepLeg(0, 6), {Kind: 5, Who: 1}, {Kind: 5, Leg: 1}, {Kind: 6}, {Kind: -1}}
	for _, x := range stepsBy(s) {
		list = append(list, x, impl.Step{Kind: x.Kind % 3, Who: x.Who}, impl.Step{Kind: x.Kind, Who: x.Who + 1, Leg: x.Leg}, impl.Step{Kind: x.Kind, Who: x.Who, Leg: x.Leg + 1}, impl.Step{Kind: x.Kind + 1, Who: x.Who, Leg: x.Leg}, impl.Step{Kind: x.Kind, Who: x.Who, Leg: math.MinInt}, impl.Step{Kind: x.Kind, Who: math.MaxInt, Leg: x.Leg})
	}
	return list
}

// checkAll holds all functions against the second way; of the steps that are none it takes every few one.
func checkAll(t *testing.T, s impl.State, every int, picks ...[]int) {
	t.Helper()
	g := giveState(s)
	g.checkSteps(t, s)
	there := stepsBy(s)
	for i, x := range stepsAround(s) {
		if i%every == 0 || slices.Contains(there, x) {
			g.checkTake(t, s, x)
		}
	}
	for _, list := range picks {
		g.checkRun(t, s, list)
	}
}

// handState has a client each for who waits and is not told, who is told, whose token is off, who is both, who has calls left, who has none.
func handState() impl.State {
	sub := subscribes(5, 1, allOf(bare(2), bare(8)))
	return cloneState(impl.State{Hub: handHub(), Clients: []impl.Client{
		{Prog: []impl.Call{sub, asks(impl.OpLook, 1), publishes(">", text("abc")), sub}, At: 1},
		{Prog: []impl.Call{asks(impl.OpAwait, 2), sub}, Waiting: true},
		{Prog: []impl.Call{takes(impl.OpRecv, 0), sub, asksWith(impl.OpTimer, 4, 1)}, Waiting: true},
		{Prog: []impl.Call{sub, byToken(asks(impl.OpStand, 2), 2)}, At: 1, Waiting: true},
		{Prog: []impl.Call{sub, byToken(asks(impl.OpWatch, 0), 3), sub}, At: 1, Waiting: true},
		{Prog: []impl.Call{sub, sub}, At: 2},
	}})
}

// legState has legs of each kind: with messages, a loss, none, others alone, at its end, and over.
func legState() impl.State {
	list, m := manyLegs()
	over := mergeInto(5, overAt(2, 7), overAt(0, 9))
	far := mergeInto(0, legAt(4, 2), overAt(1, 2))
	far.Moved, far.Legs[0].Lost = most, most-1
	return cloneState(impl.State{Hub: impl.Hub{Topics: list, Merges: []impl.Merge{m, over, far, mergeInto(3, overAt(6, 4))}, Users: users(1)}, Clients: []impl.Client{{Prog: []impl.Call{publishes(">", num(1)), asks(impl.OpClose, 6)}}}})
}

// TestEachCallOfAClient has each call as the one that a client is at, waiting and not, beside others.
func TestEachCallOfAClient(t *testing.T) {
	kinds := map[int]int{}
	for i, c := range callsAt(handHub(), []int{0, 2, 5}) {
		for who := range 6 {
			// Of each call one client, so that it does not take long.
			if (i+who)%6 != 0 {
				continue
			}
			s := handState()
			s.Clients[who] = impl.Client{Prog: []impl.Call{asks(impl.OpTell, 0), c, asks(impl.OpTell, 1)}, At: 1, Waiting: i%4 > 0 && mayBlock(c.Op)}
			g := giveState(s)
			g.checkSteps(t, s)
			for _, x := range []impl.Step{stepCall(who), stepEnd(who), stepAbort(who)} {
				g.checkTake(t, s, x)
				if isStep(s, x) {
					kinds[x.Kind]++
				}
			}
		}
	}
	if kinds[1] < 200 || kinds[3] < 10 {
		t.Error("how many steps of each kind", kinds)
	}
}

// TestEachWaitOfAClient has all that may block, at all things, waiting and not, with tokens that are off, on and not there.
func TestEachWaitOfAClient(t *testing.T) {
	both := 0
	for who := range 6 {
		for n := -1; n <= 8; n++ {
			for _, c := range []impl.Call{asks(impl.OpAwait, n), asks(impl.OpStand, n), asks(impl.OpLatch, n), asks(impl.OpWatch, n), takes(impl.OpRecv, n)} {
				for _, tok := range []int{-1, 1, 3, 5} {
					s := handState()
					s.Clients[who] = impl.Client{Prog: []impl.Call{byToken(c, tok)}, Waiting: true}
					g := giveState(s)
					g.checkSteps(t, s)
					if isStep(s, stepEnd(who)) && isStep(s, stepAbort(who)) {
						both++
					}
					for _, x := range []impl.Step{stepCall(who), stepEnd(who), stepAbort(who)} {
						if isStep(s, x) {
							g.checkTake(t, s, x)
						}
					}
				}
			}
		}
	}
	if both < 10 {
		t.Error("how many are free, with a token that is off", both)
	}
}

// TestEachLegOfAState has merges with rings of each kind, and clients at what they give to.
func TestEachLegOfAState(t *testing.T) {
	if n := len(impl.Steps(legState())); !impl.StateOk(legState()) || n != 5 {
		t.Error("the legs are not right", n)
	}
	checkAll(t, legState(), 1, upTo(0, 30), upTo(-30, 60))
	kinds := []impl.Ring{hasMessages(), hasLost(), hasNone(), hasOthers(), isRead(), closedRing(hasMessages())}
	for i, a := range kinds {
		for j, b := range kinds {
			for k, into := range []impl.Ring{twoWait(), closedRing(keeps(2, 6, nil, 3)), keeps(2, most, nil, 0)} {
				h := impl.Hub{Topics: atNames(a, b, into, hasNone()), Merges: []impl.Merge{mergeInto(2, legAt(1, 2), legAt(0, 2)), mergeInto(3, legAt(0, 2))}, Users: users(0)}
				if (i+j+k)%4 == 0 {
					h.Merges[0].Legs[0].Over = true
				}
				checkAll(t, impl.State{Hub: cloneHub(h)}, 1, []int{0, 0, 0, 0, 0}, []int{-1, -1, -1, -1}, []int{1, 2, 0, 5, 4, 3, 9})
			}
		}
	}
}

// TestEachTickOfAState has clocks and tokens of each kind.
func TestEachTickOfAState(t *testing.T) {
	trees := rightTokens()
	ticks := 0
	for i, c := range rightClocks() {
		for j := range 6 {
			s := impl.State{Hub: impl.Hub{Clock: cloneClock(c), Tokens: cloneTokens(trees[(i*37+j*11)%len(trees)]), Notes: make([]impl.Notify, 1), Users: users(1)}}
			s.Clients = []impl.Client{{Prog: []impl.Call{byToken(asks(impl.OpAwait, 0), j)}, Waiting: j%2 == 0}}
			checkAll(t, s, 3, []int{0, 1, 2, 3, 4, 5, 6}, slices.Repeat([]int{-1}, 45))
			if len(c.Timers) > 0 {
				ticks++
			}
		}
	}
	for i, x := range trees {
		var timers []impl.Timer
		for j := range 6 {
			timers = append(timers, impl.Timer{At: 20 + j/3, Token: (i*5 + j*7) % (len(x.Parents) + 1)})
		}
		timers = slices.DeleteFunc(timers, func(x impl.Timer) bool { return x.Token > 23 })
		checkAll(t, impl.State{Hub: impl.Hub{Clock: impl.Clock{Now: 19, Timers: timers}, Tokens: cloneTokens(x)}}, 5, []int{0, 0, 0})
	}
	if ticks < 60 {
		t.Error("how many have timers", ticks)
	}
}

// TestWrongStates has states that are not right, by the second way and for all functions.
func TestWrongStates(t *testing.T) {
	for i, x := range wrongStates() {
		checkAll(t, x.s, 1+i%9*3, []int{i})
	}
	for i, c := range append(notCalls(), spoiltCalls(asks(impl.OpAwait, 2))...) {
		s := handState()
		s.Clients[i%6].Prog = append(s.Clients[i%6].Prog, c)
		checkAll(t, s, 5, []int{0, 1, 2})
	}
}

// TestWhereAClientIs has At and Waiting of each kind, right and wrong.
func TestWhereAClientIs(t *testing.T) {
	prog := []impl.Call{asks(impl.OpTell, 0), byToken(asks(impl.OpAwait, 0), 0), asks(impl.OpLook, 0), takes(impl.OpRecv, 0)}
	right := 0
	for n := range 5 {
		for _, at := range []int{math.MinInt, -2, -1, 0, 1, 2, 3, 4, 5, math.MaxInt} {
			for _, waiting := range []bool{false, true} {
				for off := range 2 {
					s := impl.State{Hub: impl.Hub{Tokens: tokens([]int{-1}, upTo(0, off)...), Notes: []impl.Notify{{Grants: byAll(0)}}, Users: users(2)}}
					s.Clients = cloneEach([]impl.Client{{Prog: prog[:n], At: at, Waiting: waiting}, {Prog: prog[4-n:], At: at, Waiting: waiting}}, cloneClient)
					checkAll(t, s, 1, []int{0, 0, 0, 0}, []int{1, 1, 1})
					s.Clients[1] = impl.Client{}
					checkAll(t, s, 2, []int{0, 0, 0, 0}, []int{-1})
					if impl.StateOk(s) {
						right++
					}
				}
			}
		}
	}
	// Of n calls n + 1 places; one may wait at two of them.
	if right != 2*(1+2+3+4+5+3+1) {
		t.Error("how many are right", right)
	}
}

// checkStart looks at the memory, too: the answer shares none with the plan, nor with the programs.
func checkStart(t *testing.T, p impl.Plan, progs [][]impl.Call) {
	t.Helper()
	given := roomyPlan(p)
	before := clonePlan(wholePlan(given))
	list := roomyEach(progs, []impl.Call{fillCall}, roomyCalls)
	kept := cloneEach(roomOf(list), func(x []impl.Call) []impl.Call { return cloneCalls(wholeCalls(x)) })
	check := func(what string) {
		t.Helper()
		now := cloneEach(roomOf(list), wholeCalls)
		if !samePlan(wholePlan(given), before) || !slices.EqualFunc(now, kept, samePrograms) {
			t.Fatal(what, brief(p), brief(progs))
		}
	}
	want, wantCode := startBy(p, progs)
	for range 2 {
		s, code := impl.Start(given, list)
		if code != wantCode || !sameState(s, want) {
			t.Fatalf("Start(%s, %s)\n= %s, %d\nwant %s, %d", brief(p), brief(progs), brief(s), code, brief(want), wantCode)
		}
		check("what was handed in has changed")
		if !spoilState(s) {
			t.Fatal("two lists of the answer share memory", brief(p), brief(progs))
		}
		check("the answer shares memory with what was handed in")
	}
}

func TestStartOfEachKind(t *testing.T) {
	_, rows := progOf(handRows()...)
	for n := range 9 {
		for users := -1; users <= 9; users++ {
			p := handPlan()
			p.Users = users
			var progs [][]impl.Call
			for i := range n {
				progs = append(progs, rows[i*5:][:(i*7+n)%31])
			}
			checkStart(t, p, progs)
			checkStart(t, impl.Plan{Users: users, Vals: nums(1)}, progs)
		}
	}
	wrong := slices.Concat(notCalls(), spoiltCalls(takes(impl.OpRecv, 0)), unwritten())
	for i, c := range wrong {
		for _, n := range []int{1, 2, 29, 30, 31} {
			progs := [][]impl.Call{rows[:3], slices.Clone(rows[i%40:][:n]), nil}
			progs[1][(i*3)%n] = c
			p := handPlan()
			p.Users = 3
			checkStart(t, p, progs)
		}
	}
	for _, x := range buildFaults() {
		p := clonePlan(greatPlan())
		p.Users = 2
		checkStart(t, p, [][]impl.Call{rows[:2], nil})
		x.change(&p)
		checkStart(t, p, [][]impl.Call{rows[:2], nil})
	}
}

// TestProgramsThatAreShared hands in one program for all clients, and one Filter for all calls.
func TestProgramsThatAreShared(t *testing.T) {
	room := roomyWith(nots(12), fillTerm)
	prog := []impl.Call{subscribes(0, 0, room[:2]), subscribes(0, 1, room[:4]), subscribes(0, 1, room[:3]), takes(impl.OpRecv, 0), publishes("a", num(1)), fillCall}
	p := impl.Plan{Names: []string{"a"}, Caps: []int{2}, Users: 4}
	s, code := impl.Start(p, slices.Repeat([][]impl.Call{prog[:5]}, 4))
	want, _ := startBy(p, slices.Repeat([][]impl.Call{cloneCalls(prog[:5])}, 4))
	if code != impl.Done || !sameState(s, want) {
		t.Fatal("started", brief(s), code)
	}
	shared := impl.State{Hub: s.Hub, Clients: slices.Repeat([]impl.Client{{Prog: prog[:5]}}, 4)}
	shared.Hub.Users = slices.Repeat([]impl.User{{Subs: hits([2]int{0, 7}, [2]int{0, 8})[:0]}}, 4)
	before, kept := cloneState(wholeState(shared)), cloneCalls(prog)
	check := func(what string, got impl.State, want impl.State) {
		t.Helper()
		if !sameState(got, want) {
			t.Fatal(what, brief(got), "want", brief(want))
		}
		if !spoilState(got) || !sameState(wholeState(shared), before) || !roomKeptWith(room, nots(12), fillTerm) {
			t.Fatal("shared memory", what)
		}
	}
	for _, x := range stepsAround(shared) {
		want := takeBy(cloneState(shared), x)
		got := takeOf(shared, x)
		if got.ok != want.ok || got.r != want.r {
			t.Fatal("taken", x, got.r, got.ok)
		}
		check("Take", got.s, want.s)
	}
	for n := range 24 {
		picks := slices.Repeat([]int{3, 1, 0}, n)
		want, wantMarks := runBy(cloneState(shared), picks)
		got, marks := impl.Run(shared, picks)
		if !slices.Equal(marks, wantMarks) {
			t.Fatal("marks", n, marks)
		}
		check("Run", got, want)
	}
	check("handed back", takeOf(shared, impl.Step{}).s, shared)
	back, _ := impl.Run(shared, make([]int, 401))
	check("handed back by Run", back, shared)
	if !spoilState(s) || !samePrograms(prog, kept) {
		t.Fatal("Start's answer shares memory")
	}
}

// someScript is a plan and programs whose calls mostly name what is there; some clients have much to do, some nothing.
func someScript(r *rand.Rand) (impl.Plan, [][]impl.Call) {
	p := impl.Plan{Tokens: []int{-1, 0, -1, 2, 1}[:1+r.IntN(5)], Notes: 1 + r.IntN(2), Autos: []bool{true, false, true}[:1+r.IntN(3)], Counts: []int{2, 1 + r.IntN(6)}[:1+r.IntN(2)], Vals: []impl.Msg{num(3), text("ab")}[:1+r.IntN(2)], Names: []string{"a", "a.b", "b", "c"}[:2+r.IntN(3)]}
	for range p.Names {
		p.Caps = append(p.Caps, 1+r.IntN(3))
	}
	for i := range r.IntN(3) {
		n := len(p.Names)
		from := r.Perm(n)[:1+r.IntN(n-1)]
		into := slices.IndexFunc(upTo(0, n), func(x int) bool { return !slices.Contains(from, x) })
		p.Weaves = append(p.Weaves, impl.Weave{From: from, Into: into, Filter: subFilters()[i*3]})
	}
	p.Users = 2 + r.IntN(5)
	var progs [][]impl.Call
	for range p.Users {
		var prog []impl.Call
		for i := range r.IntN(1 + []int{6, 15, 30, 30}[r.IntN(4)]) {
			prog = append(prog, someScriptCall(r, p, i))
		}
		progs = append(progs, prog)
	}
	return p, progs
}

// someScriptCall is the call behind i others: at first a client subscribes more often, as it can't receive else.
func someScriptCall(r *rand.Rand, p impl.Plan, i int) impl.Call {
	c := impl.Call{Op: 1 + r.IntN(19), Tok: -1}
	if i < 3 && r.IntN(3) == 0 {
		c.Op = impl.OpSub
	}
	if r.IntN(4) == 0 {
		c.Op = []int{impl.OpAwait, impl.OpStand, impl.OpLatch, impl.OpWatch, impl.OpRecv, impl.OpTimer}[r.IntN(6)]
	}
	// What is over for good comes seldom, as nothing goes on behind it.
	if slices.Contains([]int{impl.OpShut, impl.OpClose, impl.OpUnsub}, c.Op) && r.IntN(3) > 0 {
		c.Op = impl.OpTimer
	}
	if mayBlock(c.Op) && r.IntN(3) > 0 {
		c.Tok = max(someNumber(r, len(p.Tokens)), 0)
	}
	switch c.Op {
	case impl.OpTell, impl.OpTellAll, impl.OpAwait:
		c.A = someNumber(r, p.Notes)
	case impl.OpRaise, impl.OpReset, impl.OpStand:
		c.A = someNumber(r, len(p.Autos))
	case impl.OpDown, impl.OpLatch:
		c.A = someNumber(r, len(p.Counts))
	case impl.OpUpdate, impl.OpLook, impl.OpWatch, impl.OpShut:
		c.A = someNumber(r, len(p.Vals))
	case impl.OpSub, impl.OpClose:
		c.A = someNumber(r, len(p.Names))
	case impl.OpRecv, impl.OpUnsub:
		c.B = someNumber(r, 1+r.IntN(2))
	case impl.OpCancel:
		c.A = someNumber(r, len(p.Tokens))
	case impl.OpTimer:
		c.A, c.B = []int{0, 1, 2, 5, most}[r.IntN(5)], someNumber(r, len(p.Tokens))
	case impl.OpPublish:
		c.Name, c.Msg = []string{"a", "a.b", "*", ">", "b", "a.*", "no"}[r.IntN(7)], sentAs(r.IntN(400))
	}
	switch c.Op {
	case impl.OpDown:
		c.B = []int{0, 1, 1, 2, 9}[r.IntN(5)]
	case impl.OpUpdate:
		c.B, c.Msg = impl.AddIt, num(r.IntN(9))
		if r.IntN(3) == 0 {
			c.B, c.Msg = impl.PutIt+r.IntN(4), text("x")
		}
	case impl.OpSub:
		c.B, c.Filter = r.IntN(2), subFilters()[r.IntN(8)]
	}
	return c
}

// someStart is such a script, started.
func someStart(t *testing.T, r *rand.Rand) impl.State {
	t.Helper()
	p, progs := someScript(r)
	s, code := impl.Start(p, progs)
	if code != impl.Done {
		t.Fatal("not started", brief(p), brief(progs))
	}
	return s
}

func somePicks(r *rand.Rand, n int) []int {
	var picks []int
	for range n {
		picks = append(picks, []int{0, r.IntN(9), r.IntN(2000) - 1000, int(r.Uint64()), math.MinInt, math.MaxInt, -1 - r.IntN(9)}[r.IntN(7)])
	}
	return picks
}

// TestSomeRunsByTheSecondWay holds runs by chance against it, and all functions at states on the way.
func TestSomeRunsByTheSecondWay(t *testing.T) {
	kinds := map[int]int{}
	codes := map[[2]int]int{}
	for seed := range uint64(150) {
		r := rand.New(rand.NewPCG(seed, 15))
		p, progs := someScript(r)
		checkStart(t, p, progs)
		s := someStart(t, rand.New(rand.NewPCG(seed, 15)))
		giveState(s).checkRun(t, s, somePicks(r, r.IntN(150)))
		for range 4 {
			s, _ = impl.Run(s, somePicks(r, 1+r.IntN(12)))
			checkAll(t, s, 6, somePicks(r, 5))
			for _, x := range stepsBy(s) {
				kinds[x.Kind]++
				codes[[2]int{x.Kind, takeBy(s, x).r.Code}]++
			}
		}
	}
	for kind := 1; kind <= 5; kind++ {
		if kinds[kind] < 20 {
			t.Error("these runs come to too little", kinds)
		}
	}
	for _, x := range [][2]int{{1, impl.Done}, {1, impl.Waits}, {1, impl.None}, {1, impl.Over}, {1, impl.Off}, {1, impl.Bad}, {2, impl.Done}, {3, impl.Off}} {
		if codes[x] < 5 {
			t.Error("these runs come to too little", x, codes[x])
		}
	}
}

// TestRunsOfManyPicks is at the edges of how many there may be.
func TestRunsOfManyPicks(t *testing.T) {
	p := impl.Plan{Notes: 2, Users: 6}
	prog := slices.Repeat([]impl.Call{asks(impl.OpTell, 0), asks(impl.OpAwait, 0)}, 15)
	s, _ := impl.Start(p, slices.Repeat([][]impl.Call{prog}, 6))
	for _, n := range []int{0, 1, 179, 180, 181, 398, 399, 400, 401, 402, 1000} {
		picks := somePicks(rand.New(rand.NewPCG(uint64(n), 4)), n)
		giveState(s).checkRun(t, s, picks)
		if _, marks := impl.Run(s, picks); n > 400 && len(marks) != 0 || n <= 180 && len(marks) != n {
			t.Error("how many are done", n, len(marks))
		}
	}
}

// runAnswer is what Run answers, told as a text.
func runAnswer(s impl.State, picks []int) string {
	d, marks := impl.Run(s, picks)
	return fmt.Sprint(d, marks)
}

// TestRunsAnswerTheSame asks again and again, with one thread and with several, and from many callers at one time.
func TestRunsAnswerTheSame(t *testing.T) {
	r := rand.New(rand.NewPCG(3, 9))
	var states []impl.State
	var picks [][]int
	var want []string
	for i := range 12 {
		states, picks = append(states, someStart(t, r)), append(picks, somePicks(r, 60))
		want = append(want, runAnswer(states[i], picks[i]))
	}
	ask := func() {
		for i, s := range states {
			if got := runAnswer(s, picks[i]); got != want[i] {
				t.Error("another one", i, got, want[i])
			}
		}
	}
	threads := runtime.GOMAXPROCS(0)
	defer runtime.GOMAXPROCS(threads)
	for _, n := range []int{1, 2, threads} {
		runtime.GOMAXPROCS(n)
		for range 5 {
			ask()
		}
		var callers sync.WaitGroup
		for range 8 {
			callers.Go(ask)
		}
		callers.Wait()
	}
}

// TestRunsLeaveNobodyBehind: no client is left that waits to be let go on.
func TestRunsLeaveNobodyBehind(t *testing.T) {
	s, _ := stepsOfEachKind(t)
	before := runtime.NumGoroutine()
	for n := range 60 {
		impl.Run(s, upTo(n, n%7))
		impl.Run(s, make([]int, 401))
		impl.Run(impl.State{Clients: s.Clients}, []int{0})
	}
	// One that is joined may still be on its way out.
	for i := 0; runtime.NumGoroutine() > before && i < 1000000; i++ {
		runtime.Gosched()
	}
	if n := runtime.NumGoroutine(); n > before {
		t.Error("left behind", n-before)
	}
}

// TestStepsBehindWhichNothingGoesOn has a client that has a merge's Sub, which no calls come to: when it waits there, or gives it up, the merge is not right any more, and a run ends.
func TestStepsBehindWhichNothingGoesOn(t *testing.T) {
	for i, c := range []impl.Call{takes(impl.OpRecv, 0), takes(impl.OpUnsub, 0)} {
		h, _, _ := impl.Build(impl.Plan{Names: []string{"a", "b"}, Caps: []int{1, 1}, Weaves: []impl.Weave{{From: []int{0}, Into: 1}}, Users: 2})
		h.Users[0].Subs = hits([2]int{0, 0})
		s := impl.State{Hub: h, Clients: []impl.Client{{Prog: []impl.Call{c, c}}, {Prog: []impl.Call{publishes("a", num(1)), asks(impl.OpLook, 0)}}}}
		checkAll(t, s, 1, []int{0, 0, 0}, []int{1, 1, 1, 1}, []int{1, 0, 0, 0}, []int{1, 2, 0})
		end, marks := impl.Run(s, []int{0, 0, 0})
		if len(marks) != 1 || impl.StateOk(end) || len(impl.Steps(end)) != 0 {
			t.Error("run", i, marks, brief(end))
		}
		checkAll(t, end, 1, []int{0})
	}
}
