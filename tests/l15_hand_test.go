package tests

import (
	"math"
	"slices"
	"strings"
	"testing"

	"loop.example/g00098/impl"
)

// The tests of this file have their answers written out, so that they lean on no second way to work them out.

func stepCall(who int) impl.Step { return impl.Step{Kind: 1, Who: who} }

func stepEnd(who int) impl.Step { return impl.Step{Kind: 2, Who: who} }

func stepAbort(who int) impl.Step { return impl.Step{Kind: 3, Who: who} }

func stepLeg(merge int, leg int) impl.Step { return impl.Step{Kind: 4, Who: merge, Leg: leg} }

func stepTick() impl.Step { return impl.Step{Kind: 5} }

func cloneClient(c impl.Client) impl.Client {
	c.Prog = cloneCalls(c.Prog)
	return c
}

func cloneState(s impl.State) impl.State {
	return impl.State{Hub: cloneHub(s.Hub), Clients: cloneEach(s.Clients, cloneClient)}
}

func sameClient(a impl.Client, b impl.Client) bool {
	return a.At == b.At && a.Waiting == b.Waiting && samePrograms(a.Prog, b.Prog)
}

func sameState(a impl.State, b impl.State) bool {
	return sameHub(a.Hub, b.Hub) && slices.EqualFunc(a.Clients, b.Clients, sameClient)
}

func progsOf(t *testing.T, texts ...string) [][]impl.Call {
	t.Helper()
	var progs [][]impl.Call
	for _, s := range texts {
		list, line := impl.ReadProg(s)
		if line != -1 {
			t.Fatalf("%q is no program, by its line %d", s, line)
		}
		progs = append(progs, list)
	}
	return progs
}

// begun has clients with these programs, at their start.
func begun(t *testing.T, p impl.Plan, texts ...string) impl.State {
	t.Helper()
	p.Users = len(texts)
	s, code := impl.Start(p, progsOf(t, texts...))
	if code != impl.Done {
		t.Fatal("not started", brief(p), texts, code)
	}
	return s
}

// gone is the state behind these steps.
func gone(t *testing.T, s impl.State, steps ...impl.Step) impl.State {
	t.Helper()
	for i, x := range steps {
		d, _, ok := impl.Take(s, x)
		if !ok {
			t.Fatal("no step", i, x, impl.Steps(s))
		}
		s = d
	}
	return s
}

// runPlan has some of each thing; token 1 is beneath 0.
func runPlan() impl.Plan {
	return impl.Plan{
		Tokens: []int{-1, 0, -1}, Notes: 2, Autos: []bool{true, false}, Counts: []int{2}, Vals: nums(3), Names: []string{"a", "b", "c", "d"}, Caps: []int{2, 2, 4, 4},
		Weaves: []impl.Weave{{From: []int{0, 1}, Into: 2}, {From: []int{2}, Into: 3}},
	}
}

func TestRunConstants(t *testing.T) {
	if impl.MaxClients != 6 || impl.MaxPicks != 400 {
		t.Error("limits", impl.MaxClients, impl.MaxPicks)
	}
	if kinds := []int{impl.StepCall, impl.StepEnd, impl.StepAbort, impl.StepLeg, impl.StepTick}; !slices.Equal(kinds, upTo(1, 5)) {
		t.Error("kinds", kinds)
	}
}

// notWritten are right calls without a text, and such as name what is not there.
func notWritten() []impl.Call {
	return []impl.Call{asks(impl.OpTell, -1), asks(impl.OpTell, math.MaxInt), byToken(asks(impl.OpAwait, 0), math.MaxInt), asksWith(impl.OpTimer, math.MinInt, 99), takes(impl.OpRecv, -7)}
}

func TestStartByHand(t *testing.T) {
	p := handPlan()
	p.Users = 3
	progs := [][]impl.Call{{asks(1, 0), subscribes(0, 1, allOf(bare(2), bare(8))), byToken(asks(3, 1), 2)}, nil, notWritten()}
	s, code := impl.Start(p, progs)
	hub, _, _ := impl.Build(p)
	if want := (impl.State{Hub: hub, Clients: []impl.Client{{Prog: progs[0]}, {}, {Prog: progs[2]}}}); code != impl.Done || !sameState(s, want) || !impl.StateOk(s) {
		t.Error("started", brief(s), code)
	}
	for _, none := range [][][]impl.Call{nil, {}} {
		if s, code := impl.Start(impl.Plan{}, none); code != impl.Done || !sameState(s, impl.State{}) || !impl.StateOk(s) {
			t.Error("nobody and nothing", brief(s), code)
		}
		p.Users = 0
		hub, _, _ := impl.Build(p)
		if s, code := impl.Start(p, none); code != impl.Done || !sameState(s, impl.State{Hub: hub}) || !impl.StateOk(s) {
			t.Error("nobody", brief(s), code)
		}
	}
}

func TestStartAtItsLimits(t *testing.T) {
	check := func(what string, want int, users int, progs ...[]impl.Call) {
		t.Helper()
		p := handPlan()
		p.Users = users
		s, code := impl.Start(p, progs)
		if code != want || impl.StateOk(s) != true || (code == impl.Done) != (len(s.Clients) == users && len(s.Hub.Topics) == 3) {
			t.Error(what, users, len(progs), brief(s), code)
		}
		if code != impl.Done && !sameState(s, impl.State{}) {
			t.Error("not the zero value", what, brief(s))
		}
	}
	one := []impl.Call{asks(1, 0)}
	programs := func(n int) [][]impl.Call { return slices.Repeat([][]impl.Call{one}, n) }
	for n := range 7 {
		check("as many", impl.Done, n, programs(n)...)
		check("one more user", impl.Bad, n+1, programs(n)...)
		check("one user less", impl.Bad, n, programs(n+1)...)
	}
	for _, n := range []int{7, 8, 63, 64, 65, 1000} {
		check("too many", impl.Bad, n, programs(n)...)
		check("too many users", impl.Bad, n, programs(6)...)
		check("too many users", impl.Bad, n)
		check("too many programs", impl.Bad, 6, programs(n)...)
	}
	for _, n := range []int{-1, math.MinInt, math.MaxInt} {
		check("users", impl.Bad, n)
		check("users", impl.Bad, n, one)
	}
	for _, n := range []int{29, 30, 31, 32, 500} {
		want := impl.Done
		if n > 30 {
			want = impl.Bad
		}
		long := slices.Repeat(one, n)
		check("long", want, 1, long)
		check("long at first", want, 3, long, one, nil)
		check("long in the middle", want, 3, one, long, nil)
		check("long at last", want, 3, nil, one, long)
		check("all are long", want, 6, long, long, long, long, long, long)
	}
	wrong := slices.Concat(notCalls(), spoiltCalls(asks(impl.OpAwait, 0)), spoiltCalls(takes(impl.OpRecv, 0)))
	for i, c := range wrong {
		for _, n := range []int{1, 3, 30} {
			for _, at := range []int{0, n / 2, n - 1} {
				prog := slices.Repeat(one, n)
				prog[at] = c
				check("no call", impl.Bad, 1, prog)
				check("no call", impl.Bad, 3, slices.Insert([][]impl.Call{one, nil}, i%3, prog)...)
			}
		}
	}
}

// TestStartOfWrongPlans: whatever Build answers, Start answers Bad, and the zero value.
func TestStartOfWrongPlans(t *testing.T) {
	progs := slices.Repeat([][]impl.Call{{asks(1, 0)}}, 6)
	codes := map[int]int{}
	for i, x := range buildFaults() {
		p := clonePlan(greatPlan())
		p.Users = 6
		if s, code := impl.Start(p, progs); code != impl.Done || !impl.StateOk(s) {
			t.Fatal("not started", code)
		}
		x.change(&p)
		codes[x.code]++
		if s, code := impl.Start(p, progs); code != impl.Bad || !sameState(s, impl.State{}) {
			t.Error("started", i, brief(s), code)
		}
	}
	twelve := impl.Plan{Names: []string{"a", "b"}, Caps: []int{1, 1}, Weaves: slices.Repeat([]impl.Weave{{From: []int{0}, Into: 1}}, 5)}
	if s, code := impl.Start(twelve, nil); code != impl.Bad || !sameState(s, impl.State{}) {
		t.Error("five merges", brief(s), code)
	}
	if codes[impl.Bad] == 0 || codes[impl.There] == 0 {
		t.Error("what Build answers", codes)
	}
}

// threeClients has one at its start, one that waits, and one at its end.
func threeClients() impl.State {
	h := handHub()
	h.Users = h.Users[:3]
	prog := []impl.Call{asks(impl.OpTell, 0), asks(impl.OpAwait, 2), asks(impl.OpTell, 1)}
	return cloneState(impl.State{Hub: h, Clients: []impl.Client{{Prog: prog}, {Prog: prog, At: 1, Waiting: true}, {Prog: prog, At: 3}}})
}

func TestStateOkByHand(t *testing.T) {
	blocking := []impl.Call{asks(impl.OpAwait, 0), asks(impl.OpStand, 0), asks(impl.OpLatch, 0), asks(impl.OpWatch, 0), takes(impl.OpRecv, 0)}
	rights := []func(s *impl.State){
		func(s *impl.State) {}, func(s *impl.State) { s.Clients[0].At = 1 }, func(s *impl.State) { s.Clients[0].At = 3 }, func(s *impl.State) { s.Clients[1].Waiting = false }, func(s *impl.State) { s.Clients[0].Prog = nil },
		func(s *impl.State) { s.Clients, s.Hub.Users = nil, nil }, func(s *impl.State) { *s = impl.State{} }, func(s *impl.State) { s.Clients[2].At = 0 },
		// Whether who waits stands in a line is not asked.
		func(s *impl.State) { s.Clients[1].Prog[1].A = 0 }, func(s *impl.State) { s.Clients[1].Prog[1].A = 99 }, func(s *impl.State) { s.Clients[1].Prog[1].Tok = 2 }, func(s *impl.State) { s.Clients[1].Prog[1].Tok = 99 }, func(s *impl.State) { s.Clients[1].Prog[1].A = -1 },
		func(s *impl.State) {
			s.Clients, s.Hub.Users = slices.Repeat(s.Clients[1:2], 6), slices.Repeat(s.Hub.Users[:1], 6)
		},
		func(s *impl.State) {
			s.Clients[0] = impl.Client{Prog: slices.Repeat(s.Clients[0].Prog, 10), At: 30}
		},
		func(s *impl.State) {
			s.Clients[2] = impl.Client{Prog: append(slices.Repeat(s.Clients[0].Prog, 9), s.Clients[0].Prog[1], s.Clients[0].Prog[1], s.Clients[0].Prog[1]), At: 29, Waiting: true}
		},
	}
	for _, c := range blocking {
		rights = append(rights, func(s *impl.State) { s.Clients[1].Prog[1] = c }, func(s *impl.State) { s.Clients[0] = impl.Client{Prog: []impl.Call{c}, Waiting: true} })
	}
	for i, change := range rights {
		s := threeClients()
		change(&s)
		if !impl.StateOk(s) {
			t.Error("not right", i, brief(s))
		}
	}
	for _, x := range wrongStates() {
		if impl.StateOk(x.s) {
			t.Error("right", x.why, brief(x.s))
		}
	}
}

// wrongState is not StateOk for one reason alone.
type wrongState struct {
	why string
	s   impl.State
}

func wrongStates() []wrongState {
	var list []wrongState
	fault := func(why string, change func(s *impl.State)) {
		s := threeClients()
		change(&s)
		list = append(list, wrongState{why, cloneState(s)})
	}
	fault("a client less", func(s *impl.State) { s.Clients = s.Clients[:2] })
	fault("no client", func(s *impl.State) { s.Clients = nil })
	fault("a client more", func(s *impl.State) { s.Clients = append(s.Clients, impl.Client{}) })
	fault("a user less", func(s *impl.State) { s.Hub.Users = s.Hub.Users[:2] })
	fault("no user", func(s *impl.State) { s.Hub.Users = nil })
	fault("a user more", func(s *impl.State) { s.Hub.Users = append(s.Hub.Users, s.Hub.Users[0]) })
	for _, n := range []int{7, 8, 64} {
		fault("too many", func(s *impl.State) {
			s.Clients, s.Hub.Users = slices.Repeat(s.Clients[:1], n), slices.Repeat(s.Hub.Users[:1], n)
		})
	}
	for who := range 3 {
		for _, at := range []int{-1, 4, math.MinInt, math.MaxInt} {
			fault("At", func(s *impl.State) { s.Clients[who].At, s.Clients[who].Waiting = at, false })
			fault("At, and waits", func(s *impl.State) { s.Clients[who].At, s.Clients[who].Waiting = at, true })
		}
		fault("At behind none", func(s *impl.State) { s.Clients[who] = impl.Client{At: 1} })
		fault("waits at the end", func(s *impl.State) { s.Clients[who].At, s.Clients[who].Waiting = 3, true })
		fault("waits at none", func(s *impl.State) { s.Clients[who] = impl.Client{Waiting: true} })
		for _, x := range handRows() {
			if !mayBlock(x.c.Op) {
				fault("waits at what does not block", func(s *impl.State) {
					s.Clients[who].Prog[1], s.Clients[who].At, s.Clients[who].Waiting = x.c, 1, true
				})
			}
		}
		for at := range 3 {
			for _, c := range append(spoiltCalls(asks(impl.OpAwait, 0)), notCalls()...) {
				fault("no call", func(s *impl.State) { s.Clients[who].Prog[at] = c })
			}
		}
		fault("long", func(s *impl.State) {
			s.Clients[who].Prog = append(slices.Repeat(s.Clients[who].Prog, 10), s.Clients[who].Prog[0])
		})
	}
	for _, h := range wrongHubs() {
		fault("hub", func(s *impl.State) {
			s.Hub, s.Clients = h, make([]impl.Client, len(h.Users))
			if len(h.Users) == 6 {
				s.Clients[3] = impl.Client{Prog: []impl.Call{byToken(asks(impl.OpAwait, 2), 2)}, Waiting: true}
				s.Clients[4].Prog = []impl.Call{asks(impl.OpTell, 0)}
			}
		})
	}
	return list
}

// TestWrongStatesByHand: no steps, and all else is handed back.
func TestWrongStatesByHand(t *testing.T) {
	for i, x := range wrongStates() {
		if steps := impl.Steps(x.s); len(steps) != 0 {
			t.Error("steps", i, x.why, steps)
		}
		for _, step := range []impl.Step{{}, stepCall(0), stepCall(1), stepCall(4), stepEnd(1), stepEnd(3), stepAbort(3), stepLeg(0, 0), stepLeg(1, 0), stepTick(), stepCall(-1), stepEnd(99)} {
			if s, r, ok := impl.Take(x.s, step); ok || r != (impl.Reply{}) || !sameState(s, x.s) {
				t.Error("taken", i, x.why, step, brief(s), r, ok)
			}
		}
		for _, picks := range [][]int{nil, {0}, {0, 0, 0, 1}, make([]int, 400), make([]int, 401)} {
			if s, marks := impl.Run(x.s, picks); len(marks) != 0 || !sameState(s, x.s) {
				t.Error("run", i, x.why, brief(s), marks)
			}
		}
		if !impl.StateSame(x.s, cloneState(x.s)) {
			t.Error("not the same as itself", i, x.why)
		}
	}
}

// stepsCase is what the programs come to by the steps ahead, and which steps there are then.
type stepsCase struct {
	what  string
	texts []string
	ahead []impl.Step
	want  []impl.Step
}

func TestStepsByHand(t *testing.T) {
	steps := func(list ...impl.Step) []impl.Step { return list }
	texts := func(list ...string) []string { return list }
	for _, x := range []stepsCase{
		{"nobody", nil, nil, nil},
		{"no calls", texts("", "", ""), nil, nil},
		{"one has a call", texts("", "tell 0\n", ""), nil, steps(stepCall(1))},
		{"its only call is done", texts("", "tell 0\n", ""), steps(stepCall(1)), nil},
		{"all have", texts("tell 0\n", "await 0\n", "tell 7\n", "recv 0\n", "sub 0\n", "timer 0 0\n"), nil, steps(stepCall(0), stepCall(1), stepCall(2), stepCall(3), stepCall(4), stepCall(5))},
		{"one waits", texts("tell 1\n", "await 0\ntell 0\n", "tell 1\n"), steps(stepCall(1)), steps(stepCall(0), stepCall(2))},
		{"waits with a token that is not off", texts("await 0 by 0\n", ""), steps(stepCall(0)), nil},
		{"another token is off", texts("await 0 by 0\n", "cancel 1\ncancel 2\n"), steps(stepCall(0), stepCall(1), stepCall(1)), nil},
		{"free", texts("await 0\ntell 1\n", "tell 0\n"), steps(stepCall(0), stepCall(1)), steps(stepEnd(0))},
		{"free, with a token that is not off", texts("await 0 by 2\n", "tell 0\n"), steps(stepCall(0), stepCall(1)), steps(stepEnd(0))},
		{"off", texts("await 0 by 0\n", "cancel 0\n"), steps(stepCall(0), stepCall(1)), steps(stepAbort(0))},
		{"off by the one above", texts("await 0 by 1\n", "cancel 0\n"), steps(stepCall(0), stepCall(1)), steps(stepAbort(0))},
		{"the one above is not off", texts("await 0 by 0\n", "cancel 1\n"), steps(stepCall(0), stepCall(1)), nil},
		{"no token, and all are off", texts("await 0\n", "cancel 0\ncancel 2\n"), steps(stepCall(0), stepCall(1), stepCall(1)), nil},
		{"free and off", texts("await 0 by 0\n", "tell 0\ncancel 0\n"), steps(stepCall(0), stepCall(1), stepCall(1)), steps(stepEnd(0), stepAbort(0))},
		{"off, then told", texts("await 0 by 0\n", "cancel 0\ntell 0\n"), steps(stepCall(0), stepCall(1), stepCall(1)), steps(stepEnd(0), stepAbort(0))},
		{"not waiting, and its token is off", texts("await 0 by 0\n", "cancel 0\n"), steps(stepCall(1)), steps(stepCall(0))},
		{"all told", texts("await 0\n", "await 0\n", "tellall 0\n"), steps(stepCall(1), stepCall(0), stepCall(2)), steps(stepEnd(0), stepEnd(1))},
		{"the first in line is told", texts("await 0\n", "await 0\n", "tell 0\n"), steps(stepCall(1), stepCall(0), stepCall(2)), steps(stepEnd(1))},
		{"an event is raised", texts("stand 0 by 2\n", "raise 0\ncancel 2\n"), steps(stepCall(0), stepCall(1), stepCall(1)), steps(stepEnd(0), stepAbort(0))},
		{"another event is raised", texts("stand 0 by 2\n", "raise 1\n"), steps(stepCall(0), stepCall(1)), nil},
		{"a latch not at its end", texts("latch 0 by 2\n", "down 0 1\n"), steps(stepCall(0), stepCall(1)), nil},
		{"a latch at its end", texts("latch 0 by 2\n", "down 0 2\ncancel 2\n"), steps(stepCall(0), stepCall(1), stepCall(1)), steps(stepEnd(0), stepAbort(0))},
		{"a cell is changed", texts("watch 0 by 2\n", "add 0 1\ncancel 2\n"), steps(stepCall(0), stepCall(1), stepCall(1)), steps(stepEnd(0), stepAbort(0))},
		{"a cell is shut", texts("watch 0\n", "shut 0\n"), steps(stepCall(0), stepCall(1)), steps(stepEnd(0))},
		{"a message is sent", texts("sub 3\nrecv 0 by 2\n", "pub d 1\ncancel 2\n"), steps(stepCall(0), stepCall(0), stepCall(1), stepCall(1)), steps(stepEnd(0), stepAbort(0))},
		{"one that is not wanted", texts("sub 3 if text\nrecv 0 by 2\n", "pub d 1\n"), steps(stepCall(0), stepCall(0), stepCall(1)), nil},
		{"one into another topic", texts("sub 3\nrecv 0\n", "sub 2\nrecv 0\n", "pub d 1\n"), steps(stepCall(0), stepCall(0), stepCall(1), stepCall(1), stepCall(2)), steps(stepEnd(0))},
		{"the first leg is ready", texts("pub a 1\n"), steps(stepCall(0)), steps(stepLeg(0, 0))},
		{"the second leg is ready", texts("pub b 1\n"), steps(stepCall(0)), steps(stepLeg(0, 1))},
		{"the next merge is ready", texts("pub c 1\n"), steps(stepCall(0)), steps(stepLeg(1, 0))},
		{"all legs are ready", texts("pub > 1\n"), steps(stepCall(0)), steps(stepLeg(0, 0), stepLeg(0, 1), stepLeg(1, 0))},
		{"one has moved", texts("pub a 1\n"), steps(stepCall(0), stepLeg(0, 0)), steps(stepLeg(1, 0))},
		{"all is moved", texts("pub a 1\n"), steps(stepCall(0), stepLeg(0, 0), stepLeg(1, 0)), nil},
		{"a topic is closed", texts("close 1\n"), steps(stepCall(0)), steps(stepLeg(0, 1))},
		{"a leg is over", texts("close 1\n"), steps(stepCall(0), stepLeg(0, 1)), nil},
		{"all legs of one are over", texts("close 1\nclose 0\n"), steps(stepCall(0), stepCall(0), stepLeg(0, 1), stepLeg(0, 0)), steps(stepLeg(1, 0))},
		{"nothing goes into it", texts("pub d 1\nclose 3\n"), steps(stepCall(0), stepCall(0)), nil},
		{"a timer", texts("timer 5 0\n"), steps(stepCall(0)), steps(stepTick())},
		{"two timers", texts("timer 5 0\ntimer 9 1\n"), steps(stepCall(0), stepCall(0)), steps(stepTick())},
		{"one of them is gone", texts("timer 5 0\ntimer 9 1\n"), steps(stepCall(0), stepCall(0), stepTick()), steps(stepTick())},
		{"both are gone", texts("timer 5 0\ntimer 9 1\n"), steps(stepCall(0), stepCall(0), stepTick(), stepTick()), nil},
		{"no timer is set", texts("timer 0 0\ntimer 5 7\n"), steps(stepCall(0), stepCall(0)), nil},
		{"a timer's token is off already", texts("timer 5 0\ncancel 0\n"), steps(stepCall(0), stepCall(0)), steps(stepTick())},
		{"all at once", texts("await 0 by 0\n", "tell 0\ntimer 5 2\npub > 1\ncancel 0\n", "stand 1 by 2\n", "look 0\n", "await 1 by 1\n", "tell 9\n"), steps(stepCall(0), stepCall(2), stepCall(4), stepCall(1), stepCall(1), stepCall(1), stepCall(1)), steps(stepEnd(0), stepAbort(0), stepCall(3), stepAbort(4), stepCall(5), stepLeg(0, 0), stepLeg(0, 1), stepLeg(1, 0), stepTick())},
	} {
		s := gone(t, begun(t, runPlan(), x.texts...), x.ahead...)
		if got := impl.Steps(s); !slices.Equal(got, x.want) {
			t.Error(x.what, got, "want", x.want)
		}
		for _, step := range x.want {
			gone(t, s, step)
		}
	}
	if got := impl.Steps(impl.State{}); len(got) != 0 {
		t.Error("of nothing", got)
	}
}

// takeCase has in change what is not as it was.
type takeCase struct {
	what   string
	s      impl.State
	x      impl.Step
	r      impl.Reply
	change func(s *impl.State)
}

func checkTakes(t *testing.T, cases []takeCase) {
	t.Helper()
	for _, x := range cases {
		want := cloneState(x.s)
		x.change(&want)
		got, r, ok := impl.Take(x.s, x.x)
		if !ok || r != x.r || !sameState(got, want) {
			t.Errorf("%s: %+v of %s\n= %s, %+v, %v\nwant %s, %+v", x.what, x.x, brief(x.s), brief(got), r, ok, brief(want), x.r)
		}
		if !impl.StateOk(got) || !impl.StateSame(got, want) || impl.StateSame(got, x.s) {
			t.Error("not right", x.what)
		}
	}
}

// onTo is a client that is done with its call.
func onTo(who int, at int, more ...func(s *impl.State)) func(s *impl.State) {
	return func(s *impl.State) {
		s.Clients[who].At, s.Clients[who].Waiting = at, false
		for _, change := range more {
			change(s)
		}
	}
}

func TestTakeOfACallByHand(t *testing.T) {
	waits := func(who int, more func(s *impl.State)) func(s *impl.State) {
		return func(s *impl.State) {
			s.Clients[who].Waiting = true
			more(s)
		}
	}
	at := func(text string) impl.State { return begun(t, runPlan(), "tell 0\n", text+"\ntell 1\n", "await 0\n") }
	told := gone(t, at("tell 0"), stepCall(2))
	off := gone(t, begun(t, runPlan(), "cancel 0\n", "await 0 by 1\ntell 1\n"), stepCall(0))
	checkTakes(t, []takeCase{
		{"a permit is stored", at("tell 0"), stepCall(1), impl.Reply{N: -1}, onTo(1, 1, func(s *impl.State) { s.Hub.Notes[0] = impl.Notify{Permit: true, Ones: 1} })},
		{"one is told", told, stepCall(1), impl.Reply{N: 2}, onTo(1, 1, func(s *impl.State) { s.Hub.Notes[0] = impl.Notify{Grants: byOne(2), Ones: 1} })},
		{"the second call", gone(t, at("tell 0"), stepCall(1)), stepCall(1), impl.Reply{N: -1}, onTo(1, 2, func(s *impl.State) { s.Hub.Notes[1] = impl.Notify{Permit: true, Ones: 1} })},
		{"the permit is taken", gone(t, at("tell 0"), stepCall(0)), stepCall(2), impl.Reply{}, onTo(2, 1, func(s *impl.State) { s.Hub.Notes[0] = impl.Notify{Ones: 1, Taken: 1} })},
		{"a look", at("look 0"), stepCall(1), impl.Reply{Msg: num(3)}, onTo(1, 1)},
		{"a subscription", at("sub 3 back if num"), stepCall(1), impl.Reply{}, onTo(1, 1, func(s *impl.State) {
			s.Hub.Topics[3].Ring = keeps(4, 0, nil, 1, fresh(0, 0, bare(2)))
			s.Hub.Users[1].Subs = hits([2]int{3, 0})
		})},
		{"none is there", at("tell 2"), stepCall(1), code(impl.None), onTo(1, 1)},
		{"none is there to wait at", at("await 2"), stepCall(1), code(impl.None), onTo(1, 1)},
		{"no such token", at("await 0 by 3"), stepCall(1), code(impl.None), onTo(1, 1)},
		{"no such place", at("recv 0"), stepCall(1), code(impl.None), onTo(1, 1)},
		{"bad", at("down 0 0"), stepCall(1), code(impl.Bad), onTo(1, 1)},
		{"bad, too", at("join 0 \"a\""), stepCall(1), code(impl.Bad), onTo(1, 1)},
		{"over", at("down 0 3"), stepCall(1), code(impl.Over), onTo(1, 1)},
		{"its token is off", off, stepCall(1), code(impl.Off), onTo(1, 1)},
		{"must wait at a Note", at("await 0 by 1"), stepCall(1), code(impl.Waits), waits(1, func(s *impl.State) { s.Hub.Notes[0].Line = []int{1} })},
		{"must wait behind another one", told, stepCall(0), impl.Reply{N: 2}, onTo(0, 1, func(s *impl.State) { s.Hub.Notes[0] = impl.Notify{Grants: byOne(2), Ones: 1} })},
		{"must wait in line", gone(t, at("await 0"), stepCall(2)), stepCall(1), code(impl.Waits), waits(1, func(s *impl.State) { s.Hub.Notes[0].Line = []int{2, 1} })},
		{"must wait at an event", at("stand 1"), stepCall(1), code(impl.Waits), waits(1, func(s *impl.State) { s.Hub.Events[1].Line = []int{1} })},
		{"must wait at a latch", at("latch 0"), stepCall(1), code(impl.Waits), waits(1, func(s *impl.State) { s.Hub.Latches[0].Line = []int{1} })},
		{"must wait at a cell", at("watch 0"), stepCall(1), code(impl.Waits), waits(1, func(s *impl.State) { s.Hub.Cells[0].Line = []int{1} })},
		{"must wait at a ring", gone(t, at("sub 3\nrecv 0"), stepCall(1)), stepCall(1), code(impl.Waits), waits(1, func(s *impl.State) { s.Hub.Topics[3].Ring.Line = []int{0} })},
	})
}

func TestTakeOfAnEndByHand(t *testing.T) {
	// at lets client 0 wait at what is told by client 1.
	at := func(waits string, tells string, ahead ...impl.Step) impl.State {
		s := begun(t, runPlan(), waits+"\ntell 1\n", tells+"\n", "await 0\n")
		return gone(t, s, append(ahead, stepCall(0), stepCall(1))...)
	}
	sub := impl.Sub{Id: 0, Cursor: 1, Got: 1}
	both := at("await 0 by 0", "tell 0\ncancel 0")
	checkTakes(t, []takeCase{
		{"told", at("await 0", "tell 0"), stepEnd(0), impl.Reply{}, onTo(0, 1, func(s *impl.State) { s.Hub.Notes[0] = impl.Notify{Ones: 1, Taken: 1} })},
		{"told, and its token is off", gone(t, both, stepCall(1)), stepEnd(0), impl.Reply{}, onTo(0, 1, func(s *impl.State) { s.Hub.Notes[0] = impl.Notify{Ones: 1, Taken: 1} })},
		{"told with all", at("await 0", "tellall 0", stepCall(2)), stepEnd(2), impl.Reply{}, onTo(2, 1, func(s *impl.State) { s.Hub.Notes[0].Grants = byAll(0) })},
		{"raised", at("stand 0", "raise 0"), stepEnd(0), impl.Reply{}, onTo(0, 1, func(s *impl.State) { s.Hub.Events[0] = impl.Event{Auto: true, Sets: 1, Taken: 1} })},
		{"raised for all", at("stand 1", "raise 1"), stepEnd(0), impl.Reply{}, onTo(0, 1, func(s *impl.State) { s.Hub.Events[1].Grants = nil })},
		{"at the end", at("latch 0", "down 0 2"), stepEnd(0), impl.Reply{}, onTo(0, 1, func(s *impl.State) { s.Hub.Latches[0].Grants = nil })},
		{"a version", at("watch 0", "add 0 4"), stepEnd(0), impl.Reply{N: 1, Msg: num(7)}, onTo(0, 1, func(s *impl.State) { s.Hub.Cells[0].Grants, s.Hub.Users[0].Seen[0] = nil, 1 })},
		{"a cell is shut", at("watch 0", "shut 0"), stepEnd(0), impl.Reply{Code: impl.Over, Msg: num(3)}, onTo(0, 1, func(s *impl.State) { s.Hub.Cells[0].Grants = nil })},
		{"a message", at("sub 3\nrecv 0", "pub d 8", stepCall(0)), stepEnd(0), impl.Reply{Msg: num(8)}, onTo(0, 2, func(s *impl.State) { s.Hub.Topics[3].Ring = keeps(4, 1, nil, 1, sub) })},
		{"a topic is closed", at("sub 3\nrecv 0", "close 3", stepCall(0)), stepEnd(0), code(impl.Over), onTo(0, 2, func(s *impl.State) { s.Hub.Topics[3].Ring.Grants = nil })},
	})
	many := gone(t, at("sub 3\nrecv 0", "pub d 1\npub d 2\npub d 3\npub d 4\npub d 5\npub d 6", stepCall(0)), slices.Repeat([]impl.Step{stepCall(1)}, 5)...)
	checkTakes(t, []takeCase{{"a loss", many, stepEnd(0), impl.Reply{M: 2}, onTo(0, 2, func(s *impl.State) {
		s.Hub.Topics[3].Ring.Grants, s.Hub.Topics[3].Ring.Subs[0] = nil, impl.Sub{Cursor: 2, Lost: 2}
	})}})
}

// waitsAgain has two clients that were told at a ring though there is nothing for them any more; the second one's token is off.
func waitsAgain() impl.State {
	h := impl.Hub{Tokens: tokens([]int{-1}, 0), Topics: topics(topic("a", waitedFor(keeps(2, 6, nil, 3, fresh(0, 6), fresh(2, 6)), nil, []int{2, 0}))), Users: users(2)}
	h.Users[0].Subs, h.Users[1].Subs = hits([2]int{0, 0}), hits([2]int{0, 1}, [2]int{0, 2})
	return impl.State{Hub: h, Clients: []impl.Client{{Prog: []impl.Call{takes(impl.OpRecv, 0)}, Waiting: true}, {Prog: []impl.Call{asks(impl.OpTell, 0), byToken(takes(impl.OpRecv, 1), 0)}, At: 1, Waiting: true}}}
}

func TestTakeOfAnEndThatMustWaitOnceMore(t *testing.T) {
	s := waitsAgain()
	ring := func(line []int, grants []int) func(s *impl.State) {
		return func(s *impl.State) { s.Hub.Topics[0].Ring.Line, s.Hub.Topics[0].Ring.Grants = line, grants }
	}
	first := gone(t, s, stepEnd(0))
	checkTakes(t, []takeCase{
		{"the first", s, stepEnd(0), code(impl.Waits), ring([]int{0}, []int{2})},
		{"the second", s, stepEnd(1), code(impl.Waits), ring([]int{2}, []int{0})},
		{"the second behind the first", first, stepEnd(1), code(impl.Waits), ring([]int{0, 2}, nil)},
		{"it gives up instead", s, stepAbort(1), code(impl.Off), onTo(1, 2, ring(nil, []int{0}))},
		{"it gives up then", gone(t, first, stepEnd(1)), stepAbort(1), code(impl.Off), onTo(1, 2, ring([]int{0}, nil))},
	})
	if steps := impl.Steps(s); !slices.Equal(steps, []impl.Step{stepEnd(0), stepEnd(1), stepAbort(1)}) {
		t.Error("ahead", steps)
	}
	if steps := impl.Steps(first); !slices.Equal(steps, []impl.Step{stepEnd(1), stepAbort(1)}) {
		t.Error("behind the first", steps)
	}
	if steps := impl.Steps(gone(t, first, stepEnd(1))); !slices.Equal(steps, []impl.Step{stepAbort(1)}) {
		t.Error("behind both", steps)
	}
	end, marks := impl.Run(s, []int{0, 0, 0, 0, 0})
	if !slices.Equal(marks, []impl.Mark{{Step: stepEnd(0), Reply: code(impl.Waits)}, {Step: stepEnd(1), Reply: code(impl.Waits)}, {Step: stepAbort(1), Reply: code(impl.Off)}}) || !end.Clients[0].Waiting || end.Clients[0].At != 0 || end.Clients[1].At != 2 || !slices.Equal(end.Hub.Topics[0].Ring.Line, []int{0}) {
		t.Error("run", marks, brief(end))
	}
}

func TestTakeOfAnAbortByHand(t *testing.T) {
	// at lets clients 0 and 2 wait at one thing, and client 1 tells and cancels the token of client 0.
	at := func(waits string, tells ...string) impl.State {
		s := begun(t, runPlan(), "sub 3\n"+waits+" by 1\ntell 1\n", strings.Join(tells, "\n")+"\n", "sub 3\n"+waits+"\n")
		s = gone(t, s, stepCall(0), stepCall(2), stepCall(0), stepCall(2))
		for range tells {
			s = gone(t, s, stepCall(1))
		}
		return s
	}
	off := code(impl.Off)
	passed := impl.Reply{Code: impl.Off, N: 1}
	ring := func(line []int, grants []int) func(s *impl.State) {
		return func(s *impl.State) { s.Hub.Topics[3].Ring.Line, s.Hub.Topics[3].Ring.Grants = line, grants }
	}
	checkTakes(t, []takeCase{
		{"out of the line", at("await 0", "cancel 0"), stepAbort(0), off, onTo(0, 2, func(s *impl.State) { s.Hub.Notes[0].Line = []int{2} })},
		{"a telling is passed on", at("await 0", "tell 0", "cancel 0"), stepAbort(0), passed, onTo(0, 2, func(s *impl.State) { s.Hub.Notes[0].Line, s.Hub.Notes[0].Grants = nil, byOne(2) })},
		{"a telling is stored", at("await 0", "tell 0", "tell 0", "cancel 0"), stepAbort(0), off, onTo(0, 2, func(s *impl.State) { s.Hub.Notes[0] = impl.Notify{Permit: true, Grants: byOne(2), Ones: 2} })},
		{"a telling of all", at("await 0", "tellall 0", "cancel 0"), stepAbort(0), off, onTo(0, 2, func(s *impl.State) { s.Hub.Notes[0].Grants = byAll(2) })},
		{"a raising is passed on", at("stand 0", "raise 0", "cancel 0"), stepAbort(0), passed, onTo(0, 2, func(s *impl.State) { s.Hub.Events[0].Line, s.Hub.Events[0].Grants = nil, []int{2} })},
		{"an event of all", at("stand 1", "raise 1", "cancel 0"), stepAbort(0), off, onTo(0, 2, func(s *impl.State) { s.Hub.Events[1].Grants = []int{2} })},
		{"a latch ahead of its end", at("latch 0", "cancel 0"), stepAbort(0), off, onTo(0, 2, func(s *impl.State) { s.Hub.Latches[0].Line = []int{2} })},
		{"a latch at its end", at("latch 0", "down 0 2", "cancel 1"), stepAbort(0), off, onTo(0, 2, func(s *impl.State) { s.Hub.Latches[0].Grants = []int{2} })},
		{"a cell", at("watch 0", "add 0 1", "cancel 1"), stepAbort(0), off, onTo(0, 2, func(s *impl.State) { s.Hub.Cells[0].Grants = []int{2} })},
		{"a ring, in line", at("recv 0", "cancel 1"), stepAbort(0), off, onTo(0, 2, ring([]int{1}, nil))},
		{"a ring, told", at("recv 0", "pub d 4", "cancel 1"), stepAbort(0), off, onTo(0, 2, ring(nil, []int{1}))},
	})
	// Who waits, but stands nowhere, can only give up; what is refused there changes nothing of the hub.
	lost := at("await 0", "cancel 0")
	lost.Hub.Notes[0].Line = []int{2}
	checkTakes(t, []takeCase{{"stands nowhere", lost, stepAbort(0), code(impl.None), onTo(0, 2)}})
	none := at("await 0", "cancel 0")
	none.Clients[0].Prog[1].A = 7
	checkTakes(t, []takeCase{{"waits at what is not there", none, stepAbort(0), code(impl.None), onTo(0, 2)}})
}

func TestTakeOfALegByHand(t *testing.T) {
	// at has done the calls of one client.
	at := func(rows ...string) impl.State {
		s := begun(t, runPlan(), strings.Join(rows, "\n")+"\n", "sub 2\nrecv 0\n")
		s = gone(t, s, stepCall(1), stepCall(1))
		for range rows {
			s = gone(t, s, stepCall(0))
		}
		return s
	}
	leg := func(i int, change func(leg *impl.Leg)) func(s *impl.State) {
		return func(s *impl.State) { change(&s.Hub.Merges[0].Legs[i]) }
	}
	lost := impl.Sub{Cursor: 1, Lost: 1}
	first := impl.Sub{Cursor: 1, Got: 1}
	over := func(leg *impl.Leg) { leg.Over = true }
	onlyTwo := waitedFor(keeps(4, 1, nums(5), 2, fresh(0, 0), fresh(1, 0)), nil, []int{1})
	closed := gone(t, at("close 0", "close 1"), stepLeg(0, 0))
	checkTakes(t, []takeCase{
		{"a message", at("pub a 5"), stepLeg(0, 0), impl.Reply{}, func(s *impl.State) {
			s.Hub.Topics[0].Ring, s.Hub.Topics[2].Ring, s.Hub.Merges[0].Moved = keeps(2, 1, nil, 1, first), onlyTwo, 1
		}},
		{"a message of the second", at("pub b 5"), stepLeg(0, 1), impl.Reply{}, func(s *impl.State) {
			s.Hub.Topics[1].Ring, s.Hub.Topics[2].Ring, s.Hub.Merges[0].Moved = keeps(2, 1, nil, 1, first), onlyTwo, 1
		}},
		{"of the next merge", gone(t, at("pub a 5"), stepLeg(0, 0)), stepLeg(1, 0), impl.Reply{}, func(s *impl.State) {
			s.Hub.Topics[2].Ring.Subs[0], s.Hub.Topics[3].Ring, s.Hub.Merges[1].Moved = first, keeps(4, 1, nil, 0), 1
		}},
		{"into one that is closed", at("close 2", "pub a 5"), stepLeg(0, 0), impl.Reply{}, func(s *impl.State) { s.Hub.Topics[0].Ring = keeps(2, 1, nil, 1, first) }},
		{"a loss", at("pub b 5", "pub b 6", "pub b 7"), stepLeg(0, 1), impl.Reply{}, func(s *impl.State) {
			s.Hub.Topics[1].Ring.Subs[0], s.Hub.Merges[0].Legs[1].Lost = lost, 1
		}},
		{"over", at("close 1"), stepLeg(0, 1), impl.Reply{}, func(s *impl.State) {
			leg(1, over)(s)
			s.Hub.Topics[1].Ring.Subs = nil
		}},
		{"all over", closed, stepLeg(0, 1), impl.Reply{}, func(s *impl.State) {
			leg(1, over)(s)
			s.Hub.Topics[1].Ring.Subs = nil
			s.Hub.Topics[2].Ring = closedRing(waitedFor(s.Hub.Topics[2].Ring, nil, []int{1}))
		}},
	})
	// Who waited at what is merged into is free by that.
	if steps := impl.Steps(gone(t, at("pub a 5"), stepLeg(0, 0))); !slices.Equal(steps, []impl.Step{stepEnd(1), stepLeg(1, 0)}) {
		t.Error("behind a message", steps)
	}
	if steps := impl.Steps(gone(t, closed, stepLeg(0, 1))); !slices.Equal(steps, []impl.Step{stepEnd(1), stepLeg(1, 0)}) {
		t.Error("behind the end", steps)
	}
}

func TestTakeOfATickByHand(t *testing.T) {
	p := impl.Plan{Tokens: []int{-1, 0, 1, -1, 3}}
	// at has done the calls of one client.
	at := func(rows ...string) impl.State {
		s := begun(t, p, strings.Join(rows, "\n")+"\n")
		for range rows {
			s = gone(t, s, stepCall(0))
		}
		return s
	}
	is := func(now int, off []int, timers ...[2]int) func(s *impl.State) {
		return func(s *impl.State) { s.Hub.Clock, s.Hub.Tokens = clock(now, timers...), tokens(p.Tokens, off...) }
	}
	tick := func(n int, m int) impl.Reply { return impl.Reply{N: n, M: m} }
	begin, _ := impl.Start(impl.Plan{Tokens: p.Tokens, Users: 1}, [][]impl.Call{{asksWith(impl.OpTimer, most, 3)}})
	last := gone(t, begin, stepCall(0))
	far := at("timer 1 2")
	far.Hub.Clock = clock(7, [2]int{9, 23}, [2]int{9, 3}, [2]int{most, 5})
	checkTakes(t, []takeCase{
		{"one", at("timer 4 2"), stepTick(), tick(4, 1), is(4, []int{2})},
		{"one with those beneath it", at("timer 4 0"), stepTick(), tick(4, 3), is(4, []int{0, 1, 2})},
		{"the first of two", at("timer 9 2", "timer 4 3"), stepTick(), tick(4, 2), is(4, []int{3, 4}, [2]int{9, 2})},
		{"the second of two", gone(t, at("timer 9 2", "timer 4 3"), stepTick()), stepTick(), tick(9, 1), is(9, []int{2, 3, 4})},
		{"two of one time", at("timer 4 2", "timer 4 4"), stepTick(), tick(4, 2), is(4, []int{2, 4})},
		{"the one above behind the one beneath", at("timer 4 2", "timer 4 0"), stepTick(), tick(4, 3), is(4, []int{0, 1, 2})},
		{"the one above ahead of the one beneath", at("timer 4 0", "timer 4 2", "timer 4 3", "timer 5 1"), stepTick(), tick(4, 5), is(4, []int{0, 1, 2, 3, 4}, [2]int{5, 1})},
		{"one token twice", at("timer 4 4", "timer 4 4"), stepTick(), tick(4, 1), is(4, []int{4})},
		{"off already", at("timer 4 2", "cancel 2"), stepTick(), tick(4, 0), is(4, []int{2})},
		{"one is off already", at("timer 4 2", "timer 4 4", "cancel 1"), stepTick(), tick(4, 1), is(4, []int{1, 2, 4})},
		{"the last time that there is", last, stepTick(), tick(most, 2), is(most, []int{3, 4})},
		{"tokens that are not there", far, stepTick(), tick(9, 2), is(9, []int{3, 4}, [2]int{most, 5})},
		{"only such", gone(t, far, stepTick()), stepTick(), tick(most, 0), is(most, []int{3, 4})},
	})
}

// stepsOfEachKind has a client that can end or abort, one that can only end, one that can only abort, one that waits, one that has a call, one that has none; legs that are ready, one that is not and one that is over, and a timer.
func stepsOfEachKind(t *testing.T) (impl.State, []impl.Step) {
	t.Helper()
	p := runPlan()
	p.Weaves = []impl.Weave{{From: []int{0, 1, 3}, Into: 2}, {From: []int{3}, Into: 2}}
	s := begun(t, p, "await 0 by 0\n", "await 0\n", "await 1 by 1\n", "stand 0 by 2\n", "tell 0\ntell 0\ncancel 0\ntimer 5 2\npub a 1\nclose 3\ntell 9\n", "")
	s = gone(t, s, stepCall(0), stepCall(1), stepCall(2), stepCall(3))
	for range 6 {
		s = gone(t, s, stepCall(4))
	}
	s = gone(t, s, stepLeg(0, 2))
	return s, []impl.Step{stepEnd(0), stepAbort(0), stepEnd(1), stepAbort(2), stepCall(4), stepLeg(0, 0), stepLeg(1, 0), stepTick()}
}

// TestNoSteps has of each kind what there could be, and what there never is.
func TestNoSteps(t *testing.T) {
	s, there := stepsOfEachKind(t)
	if got := impl.Steps(s); !slices.Equal(got, there) {
		t.Fatal("steps", got)
	}
	numbers := []int{math.MinInt, math.MinInt + 1, -1 << 32, -7, -6, -2, -1, 0, 1, 2, 3, 4, 5, 6, 7, 63, 64, 1 << 32, 1<<32 + 1, math.MaxInt}
	none := 0
	for _, kind := range numbers {
		for _, who := range numbers {
			for _, leg := range numbers {
				x := impl.Step{Kind: kind, Who: who, Leg: leg}
				is := slices.Contains(there, x)
				if got, r, ok := impl.Take(s, x); ok != is || !ok && (r != impl.Reply{} || !sameState(got, s)) || ok && sameState(got, s) {
					t.Fatal("taken", x, brief(got), r, ok)
				}
				if !is {
					none++
				}
			}
		}
	}
	if none != 8000-8 {
		t.Error("how many are none", none)
	}
	// Where nothing goes on any more there is no step at all.
	still := begun(t, runPlan(), "", "")
	for kind := -1; kind <= 7; kind++ {
		for who := -1; who <= 3; who++ {
			for leg := -1; leg <= 2; leg++ {
				if got, r, ok := impl.Take(still, impl.Step{Kind: kind, Who: who, Leg: leg}); ok || r != (impl.Reply{}) || !sameState(got, still) {
					t.Fatal("taken", kind, who, leg, brief(got), r)
				}
			}
		}
	}
}

func mark(x impl.Step, r impl.Reply) impl.Mark { return impl.Mark{Step: x, Reply: r} }

// twoInTurn are two clients that hand tellings to one another.
func twoInTurn(t *testing.T) impl.State {
	t.Helper()
	return begun(t, impl.Plan{Notes: 2}, "tell 0\nawait 1\n", "await 0\ntell 1\n")
}

func TestRunByHand(t *testing.T) {
	s := twoInTurn(t)
	stored := impl.Reply{N: -1}
	first := []impl.Mark{mark(stepCall(0), stored), mark(stepCall(0), code(impl.Waits)), mark(stepCall(1), impl.Reply{}), mark(stepCall(1), impl.Reply{}), mark(stepEnd(0), impl.Reply{})}
	second := []impl.Mark{mark(stepCall(1), code(impl.Waits)), mark(stepCall(0), impl.Reply{N: 1}), mark(stepEnd(1), impl.Reply{}), mark(stepCall(1), stored), mark(stepCall(0), impl.Reply{})}
	mixed := []impl.Mark{mark(stepCall(0), stored), mark(stepCall(1), impl.Reply{}), mark(stepCall(0), code(impl.Waits)), mark(stepCall(1), impl.Reply{}), mark(stepEnd(0), impl.Reply{})}
	least, greatest := math.MinInt, math.MaxInt
	for i, x := range []struct {
		picks []int
		want  []impl.Mark
	}{
		{nil, nil}, {[]int{}, nil}, {[]int{0}, first[:1]}, {[]int{0, 0}, first[:2]}, {[]int{0, 0, 0}, first[:3]}, {[]int{0, 0, 0, 0}, first[:4]}, {[]int{0, 0, 0, 0, 0}, first}, {[]int{0, 0, 0, 0, 0, 0, 0}, first},
		{[]int{1}, second[:1]}, {[]int{-1}, second[:1]}, {[]int{3}, second[:1]}, {[]int{-3}, second[:1]}, {[]int{greatest}, second[:1]}, {[]int{2}, first[:1]}, {[]int{-2}, first[:1]}, {[]int{least}, first[:1]}, {[]int{greatest - 1}, first[:1]}, {[]int{least + 1}, second[:1]},
		{[]int{1, 0, 1, 1, 0}, second}, {[]int{-1, 5, -1, 3, -9}, second}, {[]int{greatest, least, greatest, greatest, least}, second}, {[]int{1, 1, 1, 1, 1, 1}, second}, {[]int{least, greatest, 0, 0, 0}, mixed}, {[]int{0, 1, 0, 0, 0, 7}, mixed},
		{make([]int, 399), first}, {make([]int, 400), first}, {slices.Repeat([]int{1}, 400), second}, {make([]int, 401), nil}, {make([]int, 402), nil}, {make([]int, 100000), nil},
	} {
		got, marks := impl.Run(s, x.picks)
		var steps []impl.Step
		for _, m := range x.want {
			steps = append(steps, m.Step)
		}
		if !slices.Equal(marks, x.want) || !sameState(got, gone(t, s, steps...)) {
			t.Error("run", i, marks, brief(got))
		}
		if len(x.want) == 5 && (len(impl.Steps(got)) != 0 || got.Clients[0].At != 2 || got.Clients[1].At != 2) {
			t.Error("not at the end", i, brief(got))
		}
	}
	for n := range 3 {
		if got, marks := impl.Run(impl.State{}, make([]int, n*200)); len(marks) != 0 || !sameState(got, impl.State{}) {
			t.Error("nobody", n, marks, brief(got))
		}
	}
}

// TestRunPicksAmongMany has steps of each kind, and picks each of them by numbers around.
func TestRunPicksAmongMany(t *testing.T) {
	s, there := stepsOfEachKind(t)
	replies := []impl.Reply{{}, {Code: impl.Off}, {}, {Code: impl.Off}, {Code: impl.None}, {}, {}, {N: 5, M: 1}}
	for i, x := range there {
		for _, pick := range []int{i, i + 8, i - 8, i - 16, i + 8000000000, i - 8000000000, math.MinInt + i, math.MaxInt - 7 + i} {
			got, marks := impl.Run(s, []int{pick})
			if !slices.Equal(marks, []impl.Mark{mark(x, replies[i])}) || !sameState(got, gone(t, s, x)) {
				t.Error("picked", pick, marks)
			}
		}
	}
	// A leg, a tick, and who is free by them.
	line := begun(t, runPlan(), "sub 2\nrecv 0\nawait 0 by 1\n", "pub a 7\ntimer 3 0\n")
	end, marks := impl.Run(line, []int{0, 0, 0, 0, 1, 0, 0, 1, -1, 5})
	want := []impl.Mark{
		mark(stepCall(0), impl.Reply{}), mark(stepCall(0), code(impl.Waits)), mark(stepCall(1), impl.Reply{N: 1}), mark(stepCall(1), impl.Reply{}), mark(stepTick(), impl.Reply{N: 3, M: 2}), mark(stepLeg(0, 0), impl.Reply{}),
		mark(stepEnd(0), impl.Reply{Msg: num(7)}), mark(stepLeg(1, 0), impl.Reply{}), mark(stepCall(0), code(impl.Off)),
	}
	if !slices.Equal(marks, want) || len(impl.Steps(end)) != 0 || end.Clients[0].At != 3 || end.Hub.Topics[3].Ring.Sent != 1 {
		t.Error("a line", marks, brief(end))
	}
}

func TestStateSameByHand(t *testing.T) {
	s, _ := stepsOfEachKind(t)
	for i, x := range []impl.State{{}, s, threeClients(), waitsAgain()} {
		if !impl.StateSame(x, x) || !impl.StateSame(x, cloneState(x)) || !impl.StateSame(cloneState(x), x) {
			t.Error("not the same as itself", i)
		}
	}
	if impl.StateSame(s, impl.State{}) || impl.StateSame(impl.State{}, s) || impl.StateSame(s, threeClients()) {
		t.Error("the same")
	}
	// An empty list and nil are the same, wherever they are.
	bare := impl.State{Hub: impl.Hub{Notes: make([]impl.Notify, 1), Events: make([]impl.Event, 1), Latches: make([]impl.Latch, 1), Cells: make([]impl.Cell, 1), Topics: make([]impl.Topic, 1), Merges: make([]impl.Merge, 1), Users: make([]impl.User, 1)}, Clients: []impl.Client{{}, {Prog: make([]impl.Call, 1)}}}
	bare.Hub.Topics[0].Ring.Subs = make([]impl.Sub, 1)
	full := cloneState(bare)
	n := []int{}
	h := &full.Hub
	h.Tokens, h.Clock.Timers = impl.Tokens{Parents: n, Off: []bool{}}, []impl.Timer{}
	h.Notes[0], h.Events[0], h.Latches[0] = impl.Notify{Line: n, Grants: []impl.Grant{}}, impl.Event{Line: n, Grants: n}, impl.Latch{Line: n, Grants: n}
	h.Cells[0], h.Merges[0], h.Users[0] = impl.Cell{Line: n, Grants: n}, impl.Merge{Legs: []impl.Leg{}}, impl.User{Subs: []impl.Hit{}, Seen: n}
	h.Topics[0].Ring = impl.Ring{Items: []impl.Msg{}, Subs: []impl.Sub{{Filter: []impl.Term{}}}, Line: n, Grants: n}
	full.Clients[0].Prog, full.Clients[1].Prog[0].Filter = []impl.Call{}, []impl.Term{}
	if !impl.StateSame(bare, full) || !impl.StateSame(full, bare) {
		t.Error("nil is not empty")
	}
	none := impl.State{Hub: impl.Hub{Notes: []impl.Notify{}, Events: []impl.Event{}, Latches: []impl.Latch{}, Cells: []impl.Cell{}, Topics: []impl.Topic{}, Merges: []impl.Merge{}, Users: []impl.User{}}, Clients: []impl.Client{}}
	if !impl.StateSame(none, impl.State{}) || !impl.StateSame(impl.State{}, none) {
		t.Error("no things and no list of them")
	}
}

// differences is each one thing by which a state may be another one than stepsOfEachKind's or handHub's.
func differences() []func(s *impl.State) {
	numbers := func(list func(s *impl.State) *[]int) []func(s *impl.State) {
		return []func(s *impl.State){
			func(s *impl.State) { *list(s) = append(*list(s), 0) }, func(s *impl.State) { *list(s) = append([]int{9}, *list(s)...) },
		}
	}
	return slices.Concat([]func(s *impl.State){
		func(s *impl.State) { s.Hub.Tokens.Parents[1] = -1 }, func(s *impl.State) { s.Hub.Tokens.Off[0] = !s.Hub.Tokens.Off[0] }, func(s *impl.State) { s.Hub.Tokens.Off = append(s.Hub.Tokens.Off, false) }, func(s *impl.State) { s.Hub.Clock.Now++ }, func(s *impl.State) { s.Hub.Clock.Timers[0].At++ }, func(s *impl.State) { s.Hub.Clock.Timers[0].Token++ }, func(s *impl.State) { s.Hub.Clock.Timers = nil },
		func(s *impl.State) { s.Hub.Notes[1].Permit = !s.Hub.Notes[1].Permit }, func(s *impl.State) { s.Hub.Notes[1].Ones++ }, func(s *impl.State) { s.Hub.Notes[1].Spilt++ }, func(s *impl.State) { s.Hub.Notes[1].Taken++ }, func(s *impl.State) { s.Hub.Notes[0].Grants = append(s.Hub.Notes[0].Grants, impl.Grant{}) }, func(s *impl.State) { s.Hub.Notes = s.Hub.Notes[1:] },
		func(s *impl.State) { s.Hub.Events[1].Auto = !s.Hub.Events[1].Auto }, func(s *impl.State) { s.Hub.Events[1].Up = !s.Hub.Events[1].Up }, func(s *impl.State) { s.Hub.Events[1].Sets++ }, func(s *impl.State) { s.Hub.Events[1].Spilt++ }, func(s *impl.State) { s.Hub.Events[1].Taken++ }, func(s *impl.State) { s.Hub.Events = s.Hub.Events[:1] },
		func(s *impl.State) { s.Hub.Latches[0].Count++ }, func(s *impl.State) { s.Hub.Latches = nil }, func(s *impl.State) { s.Hub.Cells[0].Val.Kind = 2 }, func(s *impl.State) { s.Hub.Cells[0].Val.Num++ }, func(s *impl.State) { s.Hub.Cells[0].Val.Text = "a" }, func(s *impl.State) { s.Hub.Cells[0].Version++ }, func(s *impl.State) { s.Hub.Cells[0].Closed = true }, func(s *impl.State) { s.Hub.Cells = append(s.Hub.Cells, impl.Cell{}) },
		func(s *impl.State) { s.Hub.Topics[0].Name = "z" }, func(s *impl.State) { s.Hub.Topics[0].Ring.Cap++ }, func(s *impl.State) { s.Hub.Topics[0].Ring.Sent++ }, func(s *impl.State) { s.Hub.Topics[0].Ring.Next++ }, func(s *impl.State) { s.Hub.Topics[0].Ring.Closed = true }, func(s *impl.State) { s.Hub.Topics[0].Ring.Items = nil }, func(s *impl.State) { s.Hub.Topics[0].Ring.Items[0].Num++ }, func(s *impl.State) { s.Hub.Topics = s.Hub.Topics[1:] },
		func(s *impl.State) { s.Hub.Topics[0].Ring.Subs[0].Id++ }, func(s *impl.State) { s.Hub.Topics[0].Ring.Subs[0].Start++ }, func(s *impl.State) { s.Hub.Topics[0].Ring.Subs[0].Cursor++ }, func(s *impl.State) { s.Hub.Topics[0].Ring.Subs[0].Got++ }, func(s *impl.State) { s.Hub.Topics[0].Ring.Subs[0].Lost++ }, func(s *impl.State) { s.Hub.Topics[0].Ring.Subs[0].Passed++ },
		func(s *impl.State) { s.Hub.Topics[0].Ring.Subs[0].Filter = allOf(bare(1)) }, func(s *impl.State) { s.Hub.Topics[0].Ring.Subs = nil },
		func(s *impl.State) { s.Hub.Merges[0].Into++ }, func(s *impl.State) { s.Hub.Merges[0].Moved++ }, func(s *impl.State) { s.Hub.Merges[0].Legs[0].Topic++ }, func(s *impl.State) { s.Hub.Merges[0].Legs[0].Id++ }, func(s *impl.State) { s.Hub.Merges[0].Legs[0].Lost++ }, func(s *impl.State) { s.Hub.Merges[0].Legs[0].Over = true }, func(s *impl.State) { s.Hub.Merges[0].Legs = nil }, func(s *impl.State) { s.Hub.Merges = s.Hub.Merges[:1] },
		func(s *impl.State) { s.Hub.Users[1].Subs = hits([2]int{9, 9}) }, func(s *impl.State) { s.Hub.Users[1].Seen[0]++ }, func(s *impl.State) { s.Hub.Users = s.Hub.Users[1:] },
		func(s *impl.State) { s.Clients[2].At++ }, func(s *impl.State) { s.Clients[2].Waiting = !s.Clients[2].Waiting }, func(s *impl.State) { s.Clients = s.Clients[1:] }, func(s *impl.State) { s.Clients[2].Prog = nil },
		func(s *impl.State) { s.Clients[2].Prog[0].Op++ }, func(s *impl.State) { s.Clients[2].Prog[0].A++ }, func(s *impl.State) { s.Clients[2].Prog[0].B++ }, func(s *impl.State) { s.Clients[2].Prog[0].Tok++ }, func(s *impl.State) { s.Clients[2].Prog[0].Name = "a" }, func(s *impl.State) { s.Clients[2].Prog[0].Msg.Kind++ }, func(s *impl.State) { s.Clients[2].Prog[0].Msg.Num++ }, func(s *impl.State) { s.Clients[2].Prog[0].Msg.Text = "a" }, func(s *impl.State) { s.Clients[2].Prog[0].Filter = allOf(bare(1)) },
	},
		numbers(func(s *impl.State) *[]int { return &s.Hub.Tokens.Parents }), numbers(func(s *impl.State) *[]int { return &s.Hub.Notes[0].Line }), numbers(func(s *impl.State) *[]int { return &s.Hub.Events[0].Line }), numbers(func(s *impl.State) *[]int { return &s.Hub.Events[0].Grants }), numbers(func(s *impl.State) *[]int { return &s.Hub.Latches[0].Line }), numbers(func(s *impl.State) *[]int { return &s.Hub.Latches[0].Grants }),
		numbers(func(s *impl.State) *[]int { return &s.Hub.Cells[0].Line }), numbers(func(s *impl.State) *[]int { return &s.Hub.Cells[0].Grants }), numbers(func(s *impl.State) *[]int { return &s.Hub.Topics[1].Ring.Line }), numbers(func(s *impl.State) *[]int { return &s.Hub.Topics[1].Ring.Grants }), numbers(func(s *impl.State) *[]int { return &s.Hub.Users[2].Seen }),
	)
}

// TestStatesThatDiffer holds each difference against what it comes from, and all of them against one another.
func TestStatesThatDiffer(t *testing.T) {
	s, _ := stepsOfEachKind(t)
	var all []impl.State
	for i, change := range differences() {
		d := cloneState(s)
		change(&d)
		if impl.StateSame(d, s) || impl.StateSame(s, d) || !impl.StateSame(d, cloneState(d)) {
			t.Error("the same", i, brief(d))
		}
		all = append(all, d)
	}
	for i, a := range all {
		for j, b := range all {
			if impl.StateSame(a, b) != (i == j) {
				t.Error("the same, or not", i, j)
			}
		}
	}
}
