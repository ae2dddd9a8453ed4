package tests

import (
	"fmt"
	"math/rand/v2"
	"slices"
	"testing"

	"loop.example/g00098/impl"
)

// The tests of this file hold the program's answers against each other, as the promises say it.

// checkOthers: a step leaves all programs as they were, and of all clients but the one whose step it is all else; that one goes on by one call, waits, or stays as it is.
func checkOthers(t *testing.T, s impl.State, x impl.Step, r impl.Reply, d impl.State) {
	t.Helper()
	if len(d.Clients) != len(s.Clients) {
		t.Fatal("how many clients", x, brief(s), brief(d))
	}
	for who, c := range s.Clients {
		after, want := d.Clients[who], cloneClient(c)
		if x.Kind <= 3 && who == x.Who {
			want.At, want.Waiting = c.At+1, false
			if r.Code == impl.Waits {
				want.At, want.Waiting = c.At, true
			}
		}
		if !sameClient(after, want) {
			t.Fatalf("%+v, %+v: client %d is %s, and was %s", x, r, who, brief(after), brief(c))
		}
	}
}

// checkEachStep: every step that there is can be taken, and leaves a right state; it tells what there is then.
func checkEachStep(t *testing.T, s impl.State) []impl.State {
	t.Helper()
	if !impl.StateOk(s) {
		t.Fatal("not right", brief(s))
	}
	var behind []impl.State
	steps := impl.Steps(s)
	for i, x := range steps {
		d, r, ok := impl.Take(s, x)
		if !ok || !impl.StateOk(d) || slices.Index(steps, x) != i {
			t.Fatalf("%+v of %s: %v, %s", x, brief(s), ok, brief(d))
		}
		checkOthers(t, s, x, r, d)
		picked, marks := impl.Run(s, []int{i})
		if !slices.Equal(marks, []impl.Mark{{Step: x, Reply: r}}) || !impl.StateSame(picked, d) {
			t.Fatalf("picked: %v, taken: %+v, %+v; of %s", marks, x, r, brief(s))
		}
		behind = append(behind, d)
	}
	if len(steps) == 0 {
		checkRest(t, s)
	}
	return behind
}

// checkRest: where there are no steps nobody waits at what is there: it stands in line, and would have to wait if it came just now.
func checkRest(t *testing.T, s impl.State) {
	t.Helper()
	for who, c := range s.Clients {
		if !c.Waiting {
			if c.At != len(c.Prog) {
				t.Fatal("has a call left, and no step", who, brief(s))
			}
			continue
		}
		call := c.Prog[c.At]
		line, grants, number := standsAt(s.Hub, who, call)
		if !slices.Contains(line, number) || slices.Contains(grants, number) || impl.IsOff(s.Hub.Tokens, call.Tok) {
			t.Fatal("waits elsewhere", who, brief(s))
		}
		if isForTheTaking(s.Hub, who, call) {
			t.Fatal("waits at what is there", who, brief(s))
		}
		h, r := impl.Abort(s.Hub, who, call)
		if r != code(impl.Off) {
			t.Fatal("gives up", who, r, brief(s))
		}
		if _, r := impl.Do(h, who, call); r != code(impl.Waits) {
			t.Fatal("would not wait", who, r, brief(s))
		}
	}
}

// isForTheTaking: a permit, an event that is up, a latch at its end, a version that is not seen, a message, or an end.
func isForTheTaking(h impl.Hub, who int, c impl.Call) bool {
	switch c.Op {
	case impl.OpAwait:
		return h.Notes[c.A].Permit
	case impl.OpStand:
		return h.Events[c.A].Up
	case impl.OpLatch:
		return h.Latches[c.A].Count == 0
	case impl.OpWatch:
		return h.Cells[c.A].Closed || h.Cells[c.A].Version > h.Users[who].Seen[c.A]
	}
	hit := h.Users[who].Subs[c.B]
	r := h.Topics[hit.Topic].Ring
	sub := subOf(r, hit.Id)
	wanted := func(m impl.Msg) bool { return impl.Passes(sub.Filter, m) }
	return r.Closed || sub.Cursor < r.Sent-r.Cap || slices.ContainsFunc(r.Items[len(r.Items)-(r.Sent-sub.Cursor):], wanted)
}

// script is a plan with programs, and how many states there are at least that its ways come to.
type script struct {
	plan  impl.Plan
	texts []string
	least int
}

// smallScripts are few calls, all of whose ways can be gone.
func smallScripts() []script {
	notes := impl.Plan{Tokens: []int{-1, 0}, Notes: 2}
	events := impl.Plan{Tokens: []int{-1}, Autos: []bool{true, false}, Counts: []int{2}}
	cells := impl.Plan{Tokens: []int{-1}, Vals: nums(3)}
	rings := impl.Plan{Tokens: []int{-1}, Names: []string{"a", "b"}, Caps: []int{1, 2}}
	merged := impl.Plan{Tokens: []int{-1}, Names: []string{"a", "b", "c"}, Caps: []int{1, 2, 1}, Weaves: []impl.Weave{{From: []int{0, 1}, Into: 2}}}
	return []script{
		{notes, []string{"tell 0\nawait 1\ntell 0\n", "await 0\ntell 1\nawait 0\n"}, 14},
		{notes, []string{"await 0 by 0\ntell 1\n", "tell 0\ncancel 0\n", "await 0\n"}, 33},
		{notes, []string{"await 0 by 1\nawait 1 by 1\n", "timer 4 0\ntell 0\ntellall 1\n", "await 0\ntell 0\n"}, 110},
		{notes, []string{"await 0 by 0\n", "await 0 by 1\n", "await 0\n", "tell 0\ncancel 1\ntell 0\ncancel 0\n"}, 209},
		{events, []string{"stand 0 by 0\nlatch 0\n", "raise 0\ndown 0 1\ncancel 0\n", "stand 0\ndown 0 1\n"}, 53},
		{events, []string{"stand 1 by 0\nstand 1\n", "raise 1\nreset 1\ncancel 0\nraise 1\n", "latch 0 by 0\nraise 1\n"}, 67},
		{cells, []string{"watch 0\nwatch 0\nwatch 0\n", "add 0 1\nadd 0 1\nshut 0\n", "watch 0 by 0\nlook 0\n"}, 126},
		{cells, []string{"watch 0 by 0\nadd 0 2\n", "look 0\nadd 0 1\nwatch 0\n", "timer 1 0\n"}, 50},
		{rings, []string{"sub 0\nrecv 0 by 0\nrecv 0\n", "pub > 1\npub a 2\nclose 0\n", "timer 3 0\n"}, 155},
		{rings, []string{"sub 0 back if num\nrecv 0\nunsub 0\n", "pub a \"x\"\npub a 2\npub a 3\n", "sub 0\nrecv 0\n"}, 240},
		{merged, []string{"pub a 1\npub a 2\nclose 0\n", "pub b 3\nclose 1\n", "sub 2\nrecv 0\nrecv 0\n"}, 900},
		{merged, []string{"sub 2\nrecv 0 by 0\nrecv 0\n", "pub > 1\ncancel 0\npub c 2\n"}, 120},
	}
}

// eachState goes on from each state just once, until there is no other one.
func eachState(s impl.State, next func(s impl.State) []impl.State) []impl.State {
	seen := map[string]bool{fmt.Sprint(s): true}
	all := []impl.State{s}
	for i := 0; i < len(all); i++ {
		for _, d := range next(all[i]) {
			if key := fmt.Sprint(d); !seen[key] {
				seen[key] = true
				all = append(all, d)
			}
		}
	}
	return all
}

// TestEveryWayOfSmallScripts looks at the promises in each state that the picks can come to.
func TestEveryWayOfSmallScripts(t *testing.T) {
	for i, x := range smallScripts() {
		all := eachState(begun(t, x.plan, x.texts...), func(s impl.State) []impl.State { return checkEachStep(t, s) })
		second := eachState(begun(t, x.plan, x.texts...), func(s impl.State) []impl.State {
			var behind []impl.State
			for _, step := range stepsBy(s) {
				behind = append(behind, takeBy(s, step).s)
			}
			return behind
		})
		if len(all) < x.least || !slices.EqualFunc(all, second, impl.StateSame) {
			t.Error("these ways come to too little, or elsewhere", i, len(all), len(second))
		}
		for j, a := range all {
			for k := max(0, j-40); k < j; k++ {
				if impl.StateSame(a, all[k]) || impl.StateSame(all[k], a) {
					t.Fatal("two that are unlike are the same", i, brief(a), brief(all[k]))
				}
			}
		}
	}
}

// TestFreeAndOff goes all ways of one who was told and whose token is off: it may go on, or give up, and the telling goes to one who waits just then.
func TestFreeAndOff(t *testing.T) {
	p := impl.Plan{Tokens: []int{-1}, Notes: 1, Autos: []bool{true}}
	for i, x := range []struct {
		waits, tells string
		taken        func(h impl.Hub) (int, bool)
	}{
		{"await 0", "tell 0", func(h impl.Hub) (int, bool) { return h.Notes[0].Taken, h.Notes[0].Permit }},
		{"stand 0", "raise 0", func(h impl.Hub) (int, bool) { return h.Events[0].Taken, h.Events[0].Up }},
	} {
		s := begun(t, p, x.waits+" by 0\n", x.tells+"\ncancel 0\n", x.waits+"\n")
		both, ends := 0, map[string]int{}
		for _, d := range eachState(s, func(s impl.State) []impl.State { return checkEachStep(t, s) }) {
			steps := impl.Steps(d)
			if slices.Contains(steps, stepEnd(0)) && slices.Contains(steps, stepAbort(0)) {
				both++
				goes, _, _ := impl.Take(d, stepEnd(0))
				quits, _, _ := impl.Take(d, stepAbort(0))
				if n, up := x.taken(goes.Hub); n != 1 || up {
					t.Error("goes on", i, brief(goes))
				}
				if n, up := x.taken(quits.Hub); n != 0 || up == d.Clients[2].Waiting {
					t.Error("gives up", i, brief(quits))
				}
				if d.Clients[2].Waiting && (!slices.Contains(impl.Steps(quits), stepEnd(2)) || slices.Contains(impl.Steps(goes), stepEnd(2))) {
					t.Error("passed on", i, brief(d))
				}
			}
			if len(steps) > 0 {
				continue
			}
			n, up := x.taken(d.Hub)
			if n != 1 || up || d.Clients[0].Waiting || d.Clients[1].At != 2 {
				t.Error("an end", i, brief(d))
			}
			ends[fmt.Sprint(d.Clients[2].Waiting)]++
		}
		if both < 2 || len(ends) != 2 {
			t.Error("these ways come to too little", i, both, ends)
		}
	}
}

// checkDone does the steps that were marked once more, by the hub's calls alone: each client's calls in their order, each once.
func checkDone(t *testing.T, s impl.State, marks []impl.Mark, end impl.State) {
	t.Helper()
	h := s.Hub
	at, waits := make([]int, len(s.Clients)), make([]bool, len(s.Clients))
	for who, c := range s.Clients {
		at[who], waits[who] = c.At, c.Waiting
	}
	for i, m := range marks {
		x := m.Step
		var r impl.Reply
		switch x.Kind {
		case impl.StepLeg:
			moved := forwardOf(h.Topics, h.Merges[x.Who], x.Leg)
			h = cloneHub(h)
			h.Topics, h.Merges[x.Who], r.Code = moved.list, moved.m, moved.code
		case impl.StepTick:
			h, r = tickOf(h)
		default:
			if waits[x.Who] == (x.Kind == impl.StepCall) || x.Leg != 0 {
				t.Fatal("no such step", i, m, brief(s))
			}
			ask := []func(impl.Hub, int, impl.Call) (impl.Hub, impl.Reply){impl.StepCall: impl.Do, impl.StepEnd: impl.End, impl.StepAbort: impl.Abort}[x.Kind]
			h, r = ask(h, x.Who, s.Clients[x.Who].Prog[at[x.Who]])
			if waits[x.Who] = r.Code == impl.Waits; !waits[x.Who] {
				at[x.Who]++
			}
		}
		if r != m.Reply {
			t.Fatal("told otherwise", i, m, r, brief(s))
		}
	}
	want := cloneState(s)
	want.Hub = h
	for who := range want.Clients {
		want.Clients[who].At, want.Clients[who].Waiting = at[who], waits[who]
	}
	if !impl.StateSame(end, want) || !sameState(end, want) {
		t.Fatalf("behind %s: %s, and not %s", brief(marks), brief(end), brief(want))
	}
}

// tickOf goes on to the first timer, one by one.
func tickOf(h impl.Hub) (impl.Hub, impl.Reply) {
	d := cloneHub(h)
	r := impl.Reply{}
	for r.N = h.Clock.Now; ; r.N++ {
		if r.N+1 < d.Clock.Timers[0].At {
			r.N = d.Clock.Timers[0].At - 1
		}
		c, gone, _ := impl.Advance(h.Clock, r.N-h.Clock.Now)
		if len(gone) == 0 {
			continue
		}
		d.Clock = c
		for _, token := range gone {
			x, off, _ := impl.Cancel(d.Tokens, token)
			d.Tokens, r.M = x, r.M+len(off)
		}
		return d, r
	}
}

// checkParts: picks in two parts are picks at once, wherever they are cut; and so are they one by one.
func checkParts(t *testing.T, s impl.State, picks []int, cuts []int) (impl.State, []impl.Mark) {
	t.Helper()
	end, marks := impl.Run(s, picks)
	if len(marks) > len(picks) || len(marks) < len(picks) && len(impl.Steps(end)) > 0 {
		t.Fatal("how many are done", len(marks), len(picks), brief(end))
	}
	for _, cut := range cuts {
		first, ahead := impl.Run(s, picks[:cut])
		second, behind := impl.Run(first, picks[cut:])
		if !slices.Equal(slices.Concat(ahead, behind), marks) || !impl.StateSame(second, end) || !sameState(second, end) {
			t.Fatalf("%v cut at %d of %s: %s, %s\nand at once %s, %s", picks, cut, brief(s), brief(slices.Concat(ahead, behind)), brief(second), brief(marks), brief(end))
		}
		if len(ahead) != min(cut, len(marks)) {
			t.Fatal("how many are done ahead", len(ahead), cut, len(marks))
		}
	}
	return end, marks
}

func checkOneByOne(t *testing.T, s impl.State, picks []int, end impl.State, marks []impl.Mark) {
	t.Helper()
	for i, m := range marks {
		steps := impl.Steps(s)
		n := picks[i] % len(steps)
		if n < 0 {
			n += len(steps)
		}
		d, r, ok := impl.Take(s, steps[n])
		if !ok || m != (impl.Mark{Step: steps[n], Reply: r}) {
			t.Fatal("another step", i, m, steps[n], r, brief(s))
		}
		s = d
	}
	if !impl.StateSame(s, end) {
		t.Fatal("another state", brief(s), brief(end))
	}
}

// TestPicksInPartsOfSmallScripts has all picks up to some length, cut everywhere.
func TestPicksInPartsOfSmallScripts(t *testing.T) {
	for i, x := range smallScripts() {
		s := begun(t, x.plan, x.texts...)
		runs := map[string]bool{}
		eachList([]int{0, 1, 2}, 5, func(list []int) {
			if (len(list)+i)%2 == 0 && len(list) < 5 {
				return
			}
			end, marks := checkParts(t, s, list, upTo(0, len(list)+1))
			checkDone(t, s, marks, end)
			runs[fmt.Sprint(marks)] = true
		})
		if len(runs) < 16 {
			t.Error("these picks come to too little", i, len(runs))
		}
	}
}

// TestPicksInParts has runs by chance, up to their ends.
func TestPicksInParts(t *testing.T) {
	kinds, codes := map[int]int{}, map[int]int{}
	rests, stuck := 0, map[int]int{}
	for seed := range uint64(220) {
		r := rand.New(rand.NewPCG(seed, 151))
		s := someStart(t, r)
		picks := somePicks(r, []int{5, 40, 120, 400}[r.IntN(4)])
		end, marks := checkParts(t, s, picks, []int{0, r.IntN(len(picks)), min(len(picks), 1+r.IntN(20)), len(picks)})
		checkDone(t, s, marks, end)
		checkOneByOne(t, s, picks, end, marks)
		for _, m := range marks {
			kinds[m.Step.Kind]++
			codes[m.Reply.Code]++
		}
		checkEachStep(t, end)
		if len(impl.Steps(end)) == 0 {
			rests++
			for _, c := range end.Clients {
				if c.Waiting {
					stuck[c.Prog[c.At].Op]++
				}
			}
		}
	}
	for kind := 1; kind <= 5; kind++ {
		if kinds[kind] < 30 {
			t.Error("these runs come to too little", kinds)
		}
	}
	for n := range 8 {
		if n != impl.There && n != impl.Full && codes[n] < 20 {
			t.Error("these runs come to too little", codes)
		}
	}
	if rests < 80 || len(stuck) != 5 {
		t.Error("these runs come to too few rests", rests, stuck)
	}
}

// TestEachStepOnTheWay looks at each state of runs by chance.
func TestEachStepOnTheWay(t *testing.T) {
	most := 0
	for seed := range uint64(30) {
		r := rand.New(rand.NewPCG(seed, 152))
		s := someStart(t, r)
		for {
			behind := checkEachStep(t, s)
			if len(behind) == 0 {
				break
			}
			most = max(most, len(behind))
			s = behind[r.IntN(len(behind))]
		}
	}
	if most < 7 {
		t.Error("how many steps there were", most)
	}
}

// TestRunsByTheBooks does the steps of runs in books that know nothing of the program.
func TestRunsByTheBooks(t *testing.T) {
	steps := 0
	for seed := range uint64(160) {
		r := rand.New(rand.NewPCG(seed, 153))
		p, progs := someScript(r)
		p.Weaves = nil
		for _, prog := range progs {
			for i, c := range prog {
				// It is always 0 o'clock in these books.
				if c.Op == impl.OpTimer {
					prog[i] = asks(impl.OpCancel, c.B)
				}
			}
		}
		s, code := impl.Start(p, progs)
		if code != impl.Done {
			t.Fatal("not started", brief(p), brief(progs))
		}
		row := newHubRow(t, p)
		end, marks := impl.Run(s, somePicks(r, 200))
		at := make([]int, len(progs))
		for i, m := range marks {
			x := hubCall{kind: m.Step.Kind - 1, who: m.Step.Who, c: progs[m.Step.Who][at[m.Step.Who]]}
			if want := row.write(x); m.Reply != want {
				t.Fatalf("%d: %+v; the books say %+v", i, m, want)
			}
			if m.Reply.Code != impl.Waits {
				at[x.who]++
			}
		}
		row.h = end.Hub
		row.checkBooks(t, seed)
		steps += len(marks)
	}
	if steps < 3000 {
		t.Error("how many steps", steps)
	}
}

// TestClientsAtOneThing lets all six do the same, one behind the other and all at once, at each thing: none is missed, whatever the picks.
func TestClientsAtOneThing(t *testing.T) {
	p := impl.Plan{Tokens: []int{-1}, Notes: 1, Autos: []bool{true, false}, Counts: []int{5}, Vals: nums(0), Names: []string{"a"}, Caps: []int{16}}
	for i, x := range []struct{ waits, tells string }{
		{"await 0\n", "tell 0\ntell 0\ntell 0\ntell 0\ntell 0\ntellall 0\n"}, {"stand 1\n", "raise 1\n"}, {"latch 0\n", "down 0 2\ndown 0 3\n"}, {"watch 0\n", "add 0 1\n"}, {"sub 0 back\nrecv 0\n", "pub a 4\nclose 0\n"}, {"await 0 by 0\n", "timer 9 0\n"}, {"stand 0 by 0\n", "timer 1 0\nraise 0\n"},
	} {
		for seed := range uint64(12) {
			s := begun(t, p, x.waits, x.waits, x.tells, x.waits, x.waits, x.waits)
			end, _ := impl.Run(s, somePicks(rand.New(rand.NewPCG(seed, 154)), 60))
			if len(impl.Steps(end)) != 0 {
				t.Fatal("not at an end", i, seed)
			}
			checkRest(t, end)
			for who, c := range end.Clients {
				// Tellings of one that come too soon are spilt.
				if c.Waiting && x.waits != "await 0\n" || c.Waiting && who == 2 {
					t.Error("waits for ever", i, seed, who, brief(end))
				}
			}
		}
	}
}
