package tests

import (
	"fmt"
	"math"
	"math/rand/v2"
	"reflect"
	"runtime"
	"slices"
	"sync"
	"testing"

	"loop.example/g00098/impl"
)

func againBy(p impl.Plan, progs [][]impl.Call, list []impl.Mark) (impl.State, int) {
	s, code := startBy(p, progs)
	if code != impl.Done || len(list) > 400 {
		return impl.State{}, -1
	}
	for i, m := range list {
		a := takeBy(s, m.Step)
		if !a.ok || fmt.Sprintf("%#v", a.r) != fmt.Sprintf("%#v", m.Reply) {
			return s, i
		}
		s = a.s
	}
	return s, len(list)
}

// turnedBy goes to the place pick by pick, and looks at both ways from there.
func turnedBy(s impl.State, picks []int, at int) (impl.State, bool) {
	if at < 0 || len(picks) > 400 || at >= len(picks) || at+1 >= len(picks) {
		return cloneState(s), false
	}
	here, marks := runBy(s, picks[:at])
	_, both := runBy(here, picks[at:at+2])
	if len(marks) < at || len(both) < 2 || both[0].Step == both[1].Step {
		return cloneState(s), false
	}
	second := takeBy(here, both[1].Step)
	first := takeBy(second.s, both[0].Step)
	if !second.ok || !first.ok {
		return cloneState(s), false
	}
	return first.s, true
}

func calmBy(s impl.State, most int) (impl.State, int) {
	d, n := cloneState(s), 0
	if most < 0 || most > 400 {
		return d, -1
	}
	for steps := stepsBy(d); n < most && len(steps) > 0; steps = stepsBy(d) {
		d = takeBy(d, steps[0]).s
		n++
	}
	return d, n
}

// againGiven is what was handed in to Again, and how it was ahead of the call.
type againGiven struct {
	histGiven
	p      impl.Plan
	before impl.Plan
}

func giveAgain(p impl.Plan, progs [][]impl.Call, list []impl.Mark) againGiven {
	given := roomyPlan(p)
	return againGiven{histGiven: giveHistory(progs, list), p: given, before: clonePlan(wholePlan(given))}
}

func (g againGiven) checkAllKept(t *testing.T, what string) {
	t.Helper()
	g.checkKept(t, what)
	if !samePlan(wholePlan(g.p), g.before) {
		t.Fatalf("%s: the plan has changed: %s", what, brief(g.before))
	}
}

// checkAgain holds Again against the second way, twice, and spoils what it answers: what was handed in may not change by it.
func checkAgain(t *testing.T, p impl.Plan, progs [][]impl.Call, list []impl.Mark) int {
	t.Helper()
	want, number := againBy(p, progs, list)
	g := giveAgain(p, progs, list)
	for range 2 {
		s, n := impl.Again(g.p, g.progs, g.list)
		g.checkAllKept(t, "Again")
		if n != number || !sameState(s, want) {
			t.Fatalf("Again(%s, %s, %s)\n= %s, %d\nwant %s, %d", brief(p), brief(progs), brief(list), brief(s), n, brief(want), number)
		}
		if !spoilState(s) {
			t.Fatal("two lists of Again's answer share memory", brief(p), brief(progs))
		}
		g.checkAllKept(t, "Again's answer shares memory")
	}
	return number
}

func (g stateGiven) checkTurned(t *testing.T, s impl.State, picks []int, at int) bool {
	t.Helper()
	what := fmt.Sprintf("Turned %s at %d", brief(picks), at)
	given := roomy(picks)
	want, ok := turnedBy(s, picks, at)
	for range 2 {
		got, is := impl.Turned(g.s, given, at)
		if is != ok {
			t.Fatalf("%s of %s: %v", what, brief(s), is)
		}
		g.checkState(t, what, got, want)
		if !roomKeptWith(given, picks, filler) {
			t.Fatalf("%s writes into its picks", what)
		}
	}
	return ok
}

func (g stateGiven) checkCalm(t *testing.T, s impl.State, most int) int {
	t.Helper()
	what := fmt.Sprintf("Calm up to %d", most)
	want, number := calmBy(s, most)
	for range 2 {
		got, n := impl.Calm(g.s, most)
		if n != number {
			t.Fatalf("%s of %s: %d, want %d", what, brief(s), n, number)
		}
		g.checkState(t, what, got, want)
	}
	return number
}

// againTally counts what was come to.
type againTally struct {
	whole, stopped, refused, turned, kept, calm, rests int
}

func (a *againTally) addAgain(n int, marks int) {
	switch n {
	case -1:
		a.refused++
	case marks:
		a.whole++
	default:
		a.stopped++
	}
}

func (a *againTally) addTurned(ok bool) {
	if ok {
		a.turned++
	} else {
		a.kept++
	}
}

func (a *againTally) addCalm(n int, most int) {
	if n == most {
		a.calm++
	} else {
		a.rests++
	}
}

func (a *againTally) atLeast(t *testing.T, b againTally) {
	t.Helper()
	if a.whole < b.whole || a.stopped < b.stopped || a.refused < b.refused || a.turned < b.turned || a.kept < b.kept || a.calm < b.calm || a.rests < b.rests {
		t.Errorf("these come to too little: %+v", *a)
	}
}

// someAgain is what a run by chance tells, as someHistory has it.
func someAgain(t *testing.T, seed uint64, more uint64) (*rand.Rand, impl.Plan, [][]impl.Call, []impl.Mark) {
	t.Helper()
	r := rand.New(rand.NewPCG(seed, more))
	p, progs, _, list := someHistory(t, r)
	return r, p, progs, list
}

// TestAgainOfSomeHistories begins at the marks of runs, and changes them more and more.
func TestAgainOfSomeHistories(t *testing.T) {
	var tally againTally
	for seed := range uint64(110) {
		r, p, progs, list := someAgain(t, seed, 18)
		for n := range 6 {
			number := checkAgain(t, p, progs, list)
			tally.addAgain(number, len(list))
			if n > 0 {
				list = marksChange(r, list)
			}
			if len(list) > 0 && n == 2 {
				m := &list[r.IntN(len(list))]
				replies := repliesBut(m.Reply)
				m.Reply = replies[r.IntN(len(replies))]
			}
		}
	}
	tally.atLeast(t, againTally{whole: 250, stopped: 250})
}

// TestAgainOfEachReplyOfARun changes each Reply at one field by chance, and each Step, with no other fault ahead.
func TestAgainOfEachReplyOfARun(t *testing.T) {
	kinds := map[int]int{}
	for seed := range uint64(36) {
		r, p, progs, list := someAgain(t, seed, 19)
		ahead, _ := impl.Start(p, progs)
		for i, m := range list[:min(len(list), 40)] {
			other := slices.Clone(list)
			replies := repliesBut(m.Reply)
			other[i].Reply = replies[r.IntN(len(replies))]
			if s, n := impl.Again(p, progs, other); n != i || !sameState(s, ahead) {
				t.Fatal("another reply", seed, i, m, other[i].Reply, n, brief(s))
			}
			other[i] = mark(stepsAround(ahead)[r.IntN(20)], m.Reply)
			if s, n := impl.Again(p, progs, other[:i+1]); !isStep(ahead, other[i].Step) && (n != i || !sameState(s, ahead)) {
				t.Fatal("none", seed, i, m, other[i].Step, n, brief(s))
			}
			ahead, _, _ = impl.Take(ahead, m.Step)
			kinds[m.Step.Kind]++
		}
	}
	for kind := 1; kind <= 5; kind++ {
		if kinds[kind] < 5 {
			t.Error("these come to too little", kinds)
		}
	}
}

func TestAgainOfEachStart(t *testing.T) {
	var tally againTally
	_, rows := progOf(handRows()...)
	r := rand.New(rand.NewPCG(4, 18))
	steps := func(n int) []impl.Mark {
		var list []impl.Mark
		for i := range n {
			list = append(list, mark(stepCall(i%3), code(r.IntN(8))))
		}
		return list
	}
	for n := range 9 {
		for users := -1; users <= 9; users++ {
			p := handPlan()
			p.Users = users
			var progs [][]impl.Call
			for i := range n {
				progs = append(progs, rows[i*5:][:(i*7+n)%31])
			}
			list := steps(n % 4)
			tally.addAgain(checkAgain(t, p, progs, list), len(list))
		}
	}
	for i, c := range slices.Concat(notCalls(), spoiltCalls(takes(impl.OpRecv, 0)), unwritten()) {
		progs := [][]impl.Call{rows[:3], slices.Clone(rows[i%40:][:1+i%31]), nil}
		progs[1][(i*3)%len(progs[1])] = c
		p := handPlan()
		p.Users = 3
		tally.addAgain(checkAgain(t, p, progs, steps(i%5)), i%5)
	}
	for i, x := range buildFaults() {
		p := clonePlan(greatPlan())
		p.Users = 2
		x.change(&p)
		tally.addAgain(checkAgain(t, p, [][]impl.Call{rows[:2], nil}, steps(i%3)), i%3)
	}
	tally.atLeast(t, againTally{whole: 30, stopped: 5, refused: 150})
}

// TestAgainOfOddNumbers has numbers at the edges of what an int can be in each field of a mark.
func TestAgainOfOddNumbers(t *testing.T) {
	numbers := []int{math.MinInt, -1 << 32, -2, -1, 0, 1, 2, 3, 4, 5, 6, 7, 64, 1 << 32, 1<<32 + 1, math.MaxInt}
	p, progs, way := eachKindAgain(t)
	_, list := statesAhead(t, p, progs, way)
	fields := []func(m *impl.Mark) *int{
		func(m *impl.Mark) *int { return &m.Step.Kind }, func(m *impl.Mark) *int { return &m.Step.Who }, func(m *impl.Mark) *int { return &m.Step.Leg },
		func(m *impl.Mark) *int { return &m.Reply.Code }, func(m *impl.Mark) *int { return &m.Reply.N }, func(m *impl.Mark) *int { return &m.Reply.M }, func(m *impl.Mark) *int { return &m.Reply.Msg.Kind }, func(m *impl.Mark) *int { return &m.Reply.Msg.Num },
	}
	whole := 0
	for i := range list {
		for k, field := range fields {
			for j, x := range numbers {
				if (i+j+k)%3 > 0 {
					continue
				}
				other := slices.Clone(list)
				*field(&other[i]) = x
				if n := checkAgain(t, p, progs, other[:min(i+2, len(list))]); n == min(i+2, len(list)) {
					whole++
				}
				*field(&other[(i+1)%len(list)]) = x
				want, number := againBy(p, progs, other)
				checkAgainIs(t, x, p, progs, other, want, number)
			}
		}
	}
	if whole < 20 {
		t.Error("how many are whole", whole)
	}
}

// TestManyMarksAgain is at the edges of how many there may be.
func TestManyMarksAgain(t *testing.T) {
	p, progs := legsPlan(), legsProgs(30)
	p.Caps = slices.Repeat([]int{15}, 12)
	s, _ := impl.Start(p, progs)
	r := rand.New(rand.NewPCG(6, 18))
	end, list := impl.Run(s, somePicks(r, 380))
	_, more := impl.Run(end, somePicks(r, 25))
	list = append(list, more...)
	if len(list) != 405 {
		t.Fatal("not as long", len(list))
	}
	for _, n := range []int{399, 400, 401, 405} {
		want := n
		if n > 400 {
			want = -1
		}
		if got := checkAgain(t, p, progs, list[:n]); got != want {
			t.Error("of many", n, got)
		}
	}
	picks := make([]int, 402)
	g := giveState(s)
	for _, n := range []int{400, 401} {
		for _, at := range []int{0, 398, 399} {
			if ok := g.checkTurned(t, s, picks[:n], at); ok && (n > 400 || at+2 > n) {
				t.Error("turned", n, at)
			}
		}
	}
	for _, n := range []int{399, 400, 401} {
		g.checkCalm(t, s, n)
	}
}

// TestAgainOfProgramsThatAreShared hands in one program for all clients, one Filter for all calls, and marks that are a piece of others.
func TestAgainOfProgramsThatAreShared(t *testing.T) {
	room := roomyWith(nots(12), fillTerm)
	prog := []impl.Call{subscribes(0, 0, room[:2]), subscribes(0, 1, room[:4]), subscribes(0, 1, room[:3]), takes(impl.OpRecv, 0), publishes("a", num(1)), fillCall}
	p := impl.Plan{Names: []string{"a"}, Caps: []int{2}, Users: 4}
	progs := slices.Repeat([][]impl.Call{prog[:5]}, 4)
	s, code := impl.Start(p, progs)
	if code != impl.Done {
		t.Fatal("not started")
	}
	shared := impl.State{Hub: s.Hub, Clients: slices.Repeat([]impl.Client{{Prog: prog[:5]}}, 4)}
	_, list := impl.Run(s, []int{0, 1, 2, 3, 0, 0, 0, 5, 0, 2, 0, 0, 0, 0, 0, 0})
	before, marks := cloneState(wholeState(shared)), slices.Clone(list)
	check := func(what string, got impl.State, want impl.State) {
		t.Helper()
		if !sameState(got, want) {
			t.Fatal(what, brief(got), "want", brief(want))
		}
		if !spoilState(got) || !sameState(wholeState(shared), before) || !roomKeptWith(room, nots(12), fillTerm) || !slices.Equal(list, marks) {
			t.Fatal("shared memory", what)
		}
	}
	for n := range len(list) + 1 {
		got, number := impl.Again(p, progs, list[:n])
		if number != n {
			t.Fatal("stopped", n, number)
		}
		want, _ := runBy(cloneState(s), []int{0, 1, 2, 3, 0, 0, 0, 5, 0, 2, 0, 0, 0, 0, 0, 0}[:n])
		check("Again", got, want)
		d, ok := impl.Turned(shared, []int{0, 1, 2, 3, 0, 0, 0, 5, 0, 2}, n)
		wantTurned, is := turnedBy(cloneState(s), []int{0, 1, 2, 3, 0, 0, 0, 5, 0, 2}, n)
		if ok != is {
			t.Fatal("turned", n, ok)
		}
		check("Turned", d, wantTurned)
		d, _ = impl.Calm(shared, n)
		wantCalm, _ := calmBy(cloneState(s), n)
		check("Calm", d, wantCalm)
		d, _ = impl.Calm(shared, -n-1)
		check("Calm, handed back", d, s)
	}
}

// oddPlaces are numbers for at and most at their edges.
func oddPlaces(n int) []int {
	return []int{math.MinInt, math.MinInt + 1, -1 << 32, -401, -400, -2, -1, 0, 1, n - 2, n - 1, n, n + 1, 398, 399, 400, 401, 402, 1 << 32, 1<<32 + 1, math.MaxInt - 2, math.MaxInt - 1, math.MaxInt}
}

// eachGivenState has states by hand of each kind, right and wrong ones.
func eachGivenState(t *testing.T) []impl.State {
	t.Helper()
	kinds, _ := stepsOfEachKind(t)
	list := []impl.State{{}, kinds, handState(), legState(), waitsAgain(), threeClients(), twoInTurn(t), begun(t, runPlan(), "", "")}
	for i, x := range wrongStates() {
		if i%23 == 0 {
			list = append(list, x.s)
		}
	}
	return list
}

func TestTurnedOfEachKindOfState(t *testing.T) {
	var tally againTally
	for _, s := range eachGivenState(t) {
		g := giveState(s)
		// Each two steps that can be taken one behind the other.
		for first := range max(1, len(stepsBy(s))) {
			for second := range 9 {
				tally.addTurned(g.checkTurned(t, s, []int{first, second}, 0))
			}
		}
		for n, picks := range [][]int{nil, {0}, {0, 1, 0, 2, 0, 3}, {-1, -1, 5, math.MinInt, math.MaxInt, 1, 0, 0}} {
			for i, at := range oddPlaces(len(picks)) {
				if (i+n)%4 == 0 || at >= 0 && at < len(picks) {
					tally.addTurned(g.checkTurned(t, s, picks, at))
				}
			}
		}
	}
	tally.atLeast(t, againTally{turned: 150, kept: 500})
}

func TestCalmOfEachKindOfState(t *testing.T) {
	var tally againTally
	for _, s := range eachGivenState(t) {
		g := giveState(s)
		for _, most := range append(oddPlaces(3), 4, 5, 9, 14) {
			tally.addCalm(g.checkCalm(t, s, most), most)
		}
	}
	tally.atLeast(t, againTally{calm: 60, rests: 300})
}

// TestAgainAtEachPlaceOfAState changes states by hand at each place, one at a time.
func TestAgainAtEachPlaceOfAState(t *testing.T) {
	var tally againTally
	kinds, _ := stepsOfEachKind(t)
	for i, s := range []impl.State{kinds, waitsAgain(), gone(t, twoInTurn(t), stepCall(1))} {
		d, n := cloneState(s), 0
		eachChange(reflect.ValueOf(&d).Elem(), func() {
			n++
			if i == 0 && n%5 > 0 {
				return
			}
			g := giveState(d)
			tally.addTurned(g.checkTurned(t, d, []int{n, n / 3, n / 7}, n%2))
			tally.addCalm(g.checkCalm(t, d, n%6), n%6)
		})
	}
	tally.atLeast(t, againTally{turned: 30, kept: 150, calm: 30, rests: 150})
}

// TestSomeRunsTurned has runs by chance, each at some places, and how they come to rest.
func TestSomeRunsTurned(t *testing.T) {
	var tally againTally
	kinds := map[[2]int]int{}
	for seed := range uint64(90) {
		r := rand.New(rand.NewPCG(seed, 181))
		s := someStart(t, r)
		picks := somePicks(r, 2+r.IntN(50))
		g := giveState(s)
		_, marks := impl.Run(s, picks)
		for range 8 {
			at := r.IntN(len(picks)+2) - 1
			ok := g.checkTurned(t, s, picks, at)
			tally.addTurned(ok)
			if ok {
				kinds[[2]int{marks[at].Step.Kind, marks[at+1].Step.Kind}]++
			}
		}
		most := r.IntN(60)
		tally.addCalm(g.checkCalm(t, s, most), most)
		here, _ := impl.Run(s, picks)
		tally.addCalm(giveState(here).checkCalm(t, here, 40), 40)
	}
	tally.atLeast(t, againTally{turned: 200, kept: 250, calm: 30, rests: 60})
	for _, x := range [][2]int{{1, 1}, {1, 2}, {2, 1}, {1, 4}, {4, 1}, {1, 5}, {5, 1}} {
		if kinds[x] == 0 {
			t.Error("none of these is turned", x, kinds)
		}
	}
}

// TestAgainAnswersTheSame asks again and again, with one thread and with several, and from many callers at one time.
func TestAgainAnswersTheSame(t *testing.T) {
	var asks []func() string
	for seed := range uint64(10) {
		r, p, progs, list := someAgain(t, seed, 182)
		s, _ := impl.Start(p, progs)
		picks := somePicks(r, 30)
		other := marksChange(r, list)
		asks = append(asks, func() string {
			a, n := impl.Again(p, progs, list)
			b, m := impl.Again(p, progs, other)
			c, ok := impl.Turned(s, picks, int(seed))
			d, taken := impl.Calm(s, 50)
			return fmt.Sprint(a, n, b, m, c, ok, d, taken)
		})
	}
	var want []string
	for _, ask := range asks {
		want = append(want, ask())
	}
	askAll := func() {
		for i, ask := range asks {
			if got := ask(); got != want[i] {
				t.Error("another one", i, got, want[i])
			}
		}
	}
	threads := runtime.GOMAXPROCS(0)
	defer runtime.GOMAXPROCS(threads)
	for _, n := range []int{1, threads} {
		runtime.GOMAXPROCS(n)
		askAll()
		askAll()
		var callers sync.WaitGroup
		for range 8 {
			callers.Go(askAll)
		}
		callers.Wait()
	}
}

// TestAgainLeavesNobodyBehind: no client is left that waits to be let go on, also where a step is none.
func TestAgainLeavesNobodyBehind(t *testing.T) {
	p, progs, way := eachKindAgain(t)
	states, list := statesAhead(t, p, progs, way)
	before := runtime.NumGoroutine()
	for n := range 60 {
		other := slices.Clone(list)
		other[n%15].Step.Leg = 7
		impl.Again(p, progs, other)
		impl.Turned(states[n%16], upTo(n, 9), n%7)
		impl.Turned(states[0], make([]int, 401), 0)
		impl.Calm(states[n%16], n)
	}
	// One that is joined may still be on its way out.
	for i := 0; runtime.NumGoroutine() > before && i < 1000000; i++ {
		runtime.Gosched()
	}
	if n := runtime.NumGoroutine(); n > before {
		t.Error("left behind", n-before)
	}
}
