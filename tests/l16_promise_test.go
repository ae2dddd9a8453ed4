package tests

import (
	"math/rand/v2"
	"slices"
	"strconv"
	"strings"
	"testing"

	"loop.example/g00098/impl"
)

// The tests of this file hold the program's answers against each other, as the promises say it.

// checkNoBreach is asked of states that were come to from a start: the program tells none, and each client stands just where it waits.
func checkNoBreach(t *testing.T, s impl.State) {
	t.Helper()
	if got := impl.Breaches(s); len(got) != 0 || !impl.StateOk(s) {
		t.Fatal("breaches", got, impl.StateOk(s), brief(s))
	}
	var stuck []int
	for who, c := range s.Clients {
		if c.Waiting {
			stuck = append(stuck, who)
		}
		for _, x := range eachWait(s.Hub, who) {
			line, grants, number := standsAt(s.Hub, who, x)
			stands := slices.Contains(line, number) || slices.Contains(grants, number)
			if stands != waitsThere(s, who, x) {
				t.Fatal("stands where it does not wait, or waits where it does not stand", who, x, brief(s))
			}
		}
	}
	for i, c := range s.Hub.Cells {
		for _, who := range c.Line {
			if s.Hub.Users[who].Seen[i] < c.Version {
				t.Fatal("waits and has seen less", i, who, brief(s))
			}
		}
	}
	if got := impl.Stuck(s); !slices.Equal(got, stuck) {
		t.Fatal("stuck", got, stuck)
	}
	if got := impl.Kept(s); len(got) != len(s.Hub.Topics) {
		t.Fatal("kept", got)
	}
}

// checkQuietRest: at rest nobody waits at what is there, nothing can be moved, and no time will come; elsewhere something can be done.
func checkQuietRest(t *testing.T, s impl.State) {
	t.Helper()
	picked, marks := impl.Run(s, []int{0})
	if impl.Quiet(s) != (len(marks) == 0) || impl.Quiet(s) && !impl.StateSame(picked, s) {
		t.Fatal("quiet", impl.Quiet(s), marks, brief(s))
	}
	if !impl.Quiet(s) {
		return
	}
	checkRest(t, s)
	for _, who := range impl.Stuck(s) {
		c := s.Clients[who]
		call := c.Prog[c.At]
		if impl.Free(s.Hub, who, call) || impl.IsOff(s.Hub.Tokens, call.Tok) {
			t.Fatal("waits at what is there", who, brief(s))
		}
	}
	for i, m := range s.Hub.Merges {
		if legs := impl.Ready(s.Hub.Topics, m); len(legs) != 0 {
			t.Fatal("has legs to move", i, legs, brief(s))
		}
	}
	if len(s.Hub.Clock.Timers) != 0 {
		t.Fatal("has timers", brief(s))
	}
}

// TestNoBreachByAnyWay goes all ways of small scripts.
func TestNoBreachByAnyWay(t *testing.T) {
	states, rests, stuck := 0, 0, map[int]int{}
	for _, x := range smallScripts() {
		eachState(begun(t, x.plan, x.texts...), func(s impl.State) []impl.State {
			checkNoBreach(t, s)
			checkQuietRest(t, s)
			states++
			if impl.Quiet(s) {
				rests++
				stuck[len(impl.Stuck(s))]++
			}
			var behind []impl.State
			for _, step := range impl.Steps(s) {
				d, _, _ := impl.Take(s, step)
				behind = append(behind, d)
			}
			return behind
		})
	}
	if states < 2500 || rests < 80 || stuck[0] < 20 || stuck[1] < 5 || stuck[2] < 3 {
		t.Error("these ways come to too little", states, rests, stuck)
	}
}

// TestNoBreachByPicks looks behind each step of runs by chance, up to their rests.
func TestNoBreachByPicks(t *testing.T) {
	steps, rests, stuck, ops := 0, 0, map[int]int{}, map[int]int{}
	for seed := range uint64(130) {
		r := rand.New(rand.NewPCG(seed, 161))
		s := someStart(t, r)
		picks := somePicks(r, 400)
		end, marks := impl.Run(s, picks)
		for i := range len(marks) + 1 {
			checkNoBreach(t, s)
			checkQuietRest(t, s)
			if i < len(marks) {
				s, _ = impl.Run(s, picks[i:i+1])
			}
		}
		if !impl.StateSame(s, end) {
			t.Fatal("elsewhere", seed)
		}
		steps += len(marks)
		if impl.Quiet(end) {
			rests++
			stuck[len(impl.Stuck(end))]++
			for _, who := range impl.Stuck(end) {
				ops[end.Clients[who].Prog[end.Clients[who].At].Op]++
			}
		}
	}
	if steps < 3000 || rests < 100 || len(stuck) < 4 || len(ops) != 5 {
		t.Error("these runs come to too little", steps, rests, stuck, ops)
	}
}

// TestNoBreachOfManyAtOnePlace has all six clients at one thing, told, called off and passed on in many ways.
func TestNoBreachOfManyAtOnePlace(t *testing.T) {
	p := impl.Plan{Tokens: []int{-1, 0, 0}, Notes: 1, Autos: []bool{true, false}, Counts: []int{3}, Vals: nums(0), Names: []string{"a", "b"}, Caps: []int{2, 1}, Weaves: []impl.Weave{{From: []int{0}, Into: 1}}}
	rests := map[int]int{}
	for i, x := range []struct{ waits, tells string }{
		{"await 0 by %\nawait 0 by 0\n", "tell 0\ntell 0\ncancel 2\ntell 0\ntellall 0\ncancel 0\n"}, {"stand 0 by %\nstand 0\n", "raise 0\ncancel 1\nraise 0\nreset 0\nraise 0\n"}, {"stand 1 by %\nstand 1\n", "raise 1\nreset 1\ncancel 2\nraise 1\nreset 1\n"},
		{"latch 0 by %\nlatch 0\n", "down 0 1\ncancel 1\ndown 0 2\n"}, {"watch 0 by %\nwatch 0\nwatch 0\n", "add 0 1\nadd 0 1\ncancel 2\nadd 0 1\nshut 0\n"}, {"sub 0\nrecv 0 by %\nsub 1 if num\nrecv 1 by 0\nrecv 0\nunsub 0\n", "pub a 1\npub b \"x\"\npub > 2\ncancel 1\npub a 3\nclose 0\ntimer 4 0\n"},
	} {
		for seed := range uint64(12) {
			r := rand.New(rand.NewPCG(seed, 162))
			var texts []string
			for who := range 6 {
				texts = append(texts, strings.ReplaceAll(x.waits, "%", strconv.Itoa(who%3)))
			}
			texts[r.IntN(6)] = x.tells
			s := begun(t, p, texts...)
			for steps := impl.Steps(s); len(steps) > 0; steps = impl.Steps(s) {
				s, _, _ = impl.Take(s, steps[r.IntN(len(steps))])
				checkNoBreach(t, s)
			}
			checkQuietRest(t, s)
			rests[i] += len(impl.Stuck(s))
		}
	}
	// A latch that is at its end, a topic that is closed and a token that is off let all go.
	if rests[0] != 0 || rests[1] == 0 || rests[2] == 0 || rests[3] != 0 || rests[4] != 0 || rests[5] != 0 {
		t.Error("who is stuck", rests)
	}
}

// checkOtherHands does to one client what it has not asked for; done counts it.
func checkOtherHands(t *testing.T, s impl.State, who int, done map[string]int) {
	t.Helper()
	c := s.Clients[who]
	if !c.Waiting {
		for _, x := range eachWait(s.Hub, who) {
			if h, r := impl.Do(s.Hub, who, x); r.Code == impl.Waits {
				checkBreaches(t, "it was put in line", impl.State{Hub: h, Clients: s.Clients}, looseOnes(who)...)
				done["line"]++
			}
		}
		return
	}
	call := c.Prog[c.At]
	h, _ := impl.Abort(s.Hub, who, call)
	checkBreaches(t, "it was put out of line", impl.State{Hub: h, Clients: s.Clients}, looseOnes(who)...)
	if impl.Free(s.Hub, who, call) {
		h, _ := impl.End(s.Hub, who, call)
		checkBreaches(t, "it has gone on", impl.State{Hub: h, Clients: s.Clients}, looseOnes(who)...)
		done["end"]++
	}
	d := cloneState(s)
	d.Clients[who].Waiting = false
	checkBreaches(t, "it does not wait any more", d, looseOnes(who)...)
	done["out"]++
	if call.Op == impl.OpWatch && slices.Contains(s.Hub.Cells[call.A].Line, who) {
		d := cloneState(s)
		d.Hub.Users[who].Seen[call.A] = s.Hub.Cells[call.A].Version - 1
		checkBreaches(t, "it has seen less", d, cellBreaches(call.A)...)
		done["cell"]++
	}
}

// TestABreachComesOfNothingButOtherHands: who goes on behind a client's back, or takes its place, is told as a breach, wherever it was done in a run.
func TestABreachComesOfNothingButOtherHands(t *testing.T) {
	done := map[string]int{}
	for seed := range uint64(60) {
		r := rand.New(rand.NewPCG(seed, 163))
		s := someStart(t, r)
		for range 12 {
			s, _ = impl.Run(s, somePicks(r, 1+r.IntN(5)))
			for who := range s.Clients {
				checkOtherHands(t, s, who, done)
			}
		}
	}
	if done["line"] < 3000 || done["out"] < 500 || done["end"] < 15 || done["cell"] < 100 {
		t.Error("these runs come to too little", done)
	}
}
