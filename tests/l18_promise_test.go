package tests

import (
	"math/rand/v2"
	"slices"
	"testing"

	"loop.example/g00098/impl"
)

// checkWholeAgain: the marks of a run, from the same start on, lead to its state; all of them, and each beginning to the state that stood there.
func checkWholeAgain(t *testing.T, p impl.Plan, progs [][]impl.Call, picks []int, every int) []impl.Mark {
	t.Helper()
	s, code := impl.Start(p, progs)
	if code != impl.Done {
		t.Fatal("not started", brief(p), brief(progs))
	}
	end, marks := impl.Run(s, picks)
	for n := len(marks); n >= 0; n -= every {
		want, _ := impl.Run(s, picks[:n])
		if got, taken := impl.Again(p, progs, marks[:n]); taken != n || !impl.StateSame(got, want) || n == len(marks) && !sameState(got, end) {
			t.Fatal("elsewhere", n, taken, brief(marks), brief(got))
		}
	}
	return marks
}

// checkCalmIsRun: to calm is to run by picks of 0, and tells how many there were.
func checkCalmIsRun(t *testing.T, s impl.State, most int) bool {
	t.Helper()
	want, marks := impl.Run(s, make([]int, most))
	got, n := impl.Calm(s, most)
	if n != len(marks) || !sameState(got, want) {
		t.Fatal("calm", most, n, len(marks), brief(got))
	}
	if n < most && !impl.Quiet(got) {
		t.Fatal("does not rest", most, n, brief(got))
	}
	return n < most
}

// ofCell and ofOthers are the ops on a cell, and those on a Note, an event or a latch.
func ofCell(op int) bool {
	return slices.Contains([]int{impl.OpUpdate, impl.OpLook, impl.OpWatch, impl.OpShut}, op)
}

func ofOthers(op int) bool {
	return slices.Contains([]int{impl.OpTell, impl.OpTellAll, impl.OpAwait, impl.OpRaise, impl.OpReset, impl.OpStand, impl.OpDown, impl.OpLatch}, op)
}

// opOf is the op of a client's step, 0 for a leg or a tick.
func opOf(s impl.State, x impl.Step) int {
	if x.Kind > 3 {
		return 0
	}
	c := s.Clients[x.Who]
	return c.Prog[c.At].Op
}

// areApart tells whether two steps are of two clients, one on a cell, the other one on a Note, an event or a latch.
func areApart(s impl.State, a impl.Step, b impl.Step) bool {
	x, y := opOf(s, a), opOf(s, b)
	return a.Who != b.Who && (ofCell(x) && ofOthers(y) || ofOthers(x) && ofCell(y))
}

// apartTally counts by the kinds of both steps, and by their ops, how many were turned about.
type apartTally struct {
	kinds map[[2]int]int
	ops   map[[2]int]int
}

func newApartTally() apartTally { return apartTally{map[[2]int]int{}, map[[2]int]int{}} }

func (a apartTally) add(s impl.State, x impl.Step, y impl.Step) {
	a.kinds[[2]int{x.Kind, y.Kind}]++
	a.ops[[2]int{opOf(s, x), opOf(s, y)}]++
}

// atLeast wants so many of each pair of kinds with a StepCall, so many of each other one, and so many pairs of ops out of 64.
func (a apartTally) atLeast(t *testing.T, calls int, others int, ops int) {
	t.Helper()
	for x := 1; x <= 3; x++ {
		for y := 1; y <= 3; y++ {
			least := others
			if x == 1 || y == 1 {
				least = calls
			}
			if n := a.kinds[[2]int{x, y}]; n < least {
				t.Error("too few of these kinds", x, y, n)
			}
		}
	}
	if len(a.ops) < ops {
		t.Error("too few pairs of ops", len(a.ops))
	}
}

// checkApartAt looks at two neighbouring steps of a run; here is the state ahead of both.
func checkApartAt(t *testing.T, s impl.State, here impl.State, picks []int, marks []impl.Mark, at int, tally apartTally) {
	t.Helper()
	x, y := marks[at], marks[at+1]
	if !areApart(here, x.Step, y.Step) {
		return
	}
	want, _ := impl.Run(s, picks[:at+2])
	if got, ok := impl.Turned(s, picks, at); !ok || !impl.StateSame(got, want) {
		t.Fatal("another state", at, x, y, ok, brief(here), brief(got))
	}
	// Each tells what it tells, whichever is ahead.
	other, second, _ := impl.Take(here, y.Step)
	_, first, _ := impl.Take(other, x.Step)
	if second != y.Reply || first != x.Reply {
		t.Fatal("another reply", at, x, y, first, second)
	}
	tally.add(here, x.Step, y.Step)
}

// checkTwosApart looks at each two neighbouring steps of a run.
func checkTwosApart(t *testing.T, s impl.State, picks []int, tally apartTally) {
	t.Helper()
	_, marks := impl.Run(s, picks)
	here := s
	for at := 0; at+1 < len(marks); at++ {
		checkApartAt(t, s, here, picks, marks, at, tally)
		here, _, _ = impl.Take(here, marks[at].Step)
	}
}

// apartScript has clients of cells and clients of Notes, events and latches, with tokens that are called off on the way; most of them do some of both. The last two wait for nothing, so that what the others wait for comes.
func apartScript(r *rand.Rand) (impl.Plan, [][]impl.Call) {
	p := impl.Plan{Tokens: []int{-1, 0, -1, 2, -1}, Notes: 2, Autos: []bool{true, false}, Counts: []int{1 + r.IntN(3), 4}, Vals: nums(r.IntN(9), 2), Users: 3 + r.IntN(4)}
	cells := []int{impl.OpUpdate, impl.OpUpdate, impl.OpLook, impl.OpWatch, impl.OpWatch, impl.OpWatch}
	others := []int{impl.OpTell, impl.OpTell, impl.OpTellAll, impl.OpAwait, impl.OpAwait, impl.OpRaise, impl.OpRaise, impl.OpReset, impl.OpStand, impl.OpStand, impl.OpDown, impl.OpLatch}
	var progs [][]impl.Call
	for who := range p.Users {
		var prog []impl.Call
		for range 6 + r.IntN(20) {
			ops := [][]int{cells, others}[(who+r.IntN(5)/4)%2]
			if who >= p.Users-2 {
				ops = slices.DeleteFunc(slices.Clone(ops), mayBlock)
			}
			c := asks(ops[r.IntN(len(ops))], r.IntN(2))
			switch c.Op {
			case impl.OpDown:
				c.B = r.IntN(2)
			case impl.OpUpdate:
				c.B, c.Msg = 1+r.IntN(4), num(r.IntN(6))
			}
			if mayBlock(c.Op) {
				c.Tok = max(r.IntN(8)-3, -1)
			}
			switch r.IntN(18) {
			case 0:
				c = asks(impl.OpCancel, r.IntN(5))
			case 1:
				c = asksWith(impl.OpTimer, 1+r.IntN(9), r.IntN(5))
			case 2:
				c = asks(impl.OpShut, 1)
			}
			prog = append(prog, c)
		}
		progs = append(progs, prog)
	}
	return p, progs
}

// TestCallsOfThingsApartMayBeTurned has runs by chance, all their neighbouring steps.
func TestCallsOfThingsApartMayBeTurned(t *testing.T) {
	tally := newApartTally()
	for seed := range uint64(70) {
		r := rand.New(rand.NewPCG(seed, 183))
		p, progs := apartScript(r)
		s, code := impl.Start(p, progs)
		if code != impl.Done {
			t.Fatal("not started", brief(p), brief(progs))
		}
		checkTwosApart(t, s, somePicks(r, 70), tally)
	}
	tally.atLeast(t, 2, 0, 60)
}

// apartScripts are few calls on things apart, all of whose ways can be gone.
func apartScripts() []script {
	p := impl.Plan{Tokens: []int{-1, 0}, Notes: 1, Autos: []bool{true, false}, Counts: []int{1}, Vals: nums(3)}
	return []script{
		{p, []string{"await 0 by 0\ntell 0\n", "watch 0 by 1\nadd 0 1\n", "tell 0\ncancel 0\nput 0 7\n"}, 60},
		{p, []string{"stand 0\nraise 1\n", "raise 0\nlook 0\nshut 0\n", "watch 0\nstand 1\n"}, 37},
		{p, []string{"latch 0 by 0\nlook 0\n", "down 0 1\nput 0 1\n", "watch 0 by 0\ntellall 0\n", "timer 2 0\n"}, 100},
		{p, []string{"watch 0\nwatch 0\nawait 0\n", "add 0 1\ntell 0\nadd 0 1\n", "reset 0\nraise 0\nmost 0 9\n"}, 80},
	}
}

// TestEachTwoStepsOfSmallScripts has each state that the picks can come to, and each two steps from there on.
func TestEachTwoStepsOfSmallScripts(t *testing.T) {
	tally := newApartTally()
	turned, kept, elsewhere := 0, 0, 0
	scripts := append(apartScripts(), smallScripts()...)
	for i, x := range scripts {
		// Of those that have few things apart not all states, so that it does not take long.
		every := 1 + i/4*6
		all := eachState(begun(t, x.plan, x.texts...), func(s impl.State) []impl.State {
			var next []impl.State
			for _, step := range impl.Steps(s) {
				next = append(next, gone(t, s, step))
			}
			return next
		})
		if len(all) < x.least {
			t.Error("these ways come to too little", i, len(all))
		}
		for j := 0; j < len(all); j += every {
			s := all[j]
			for a, first := range impl.Steps(s) {
				after := gone(t, s, first)
				for b := range impl.Steps(after) {
					picks := []int{a, b}
					want, ok := turnedBy(s, picks, 0)
					got, is := impl.Turned(s, picks, 0)
					if is != ok || !sameState(got, want) {
						t.Fatal("turned", i, picks, is, brief(s))
					}
					_, marks := impl.Run(s, picks)
					checkApartAt(t, s, s, picks, marks, 0, tally)
					switch {
					case !is:
						kept++
					case impl.StateSame(got, gone(t, after, marks[1].Step)):
						turned++
					default:
						turned++
						elsewhere++
					}
				}
			}
		}
	}
	tally.atLeast(t, 25, 5, 35)
	if turned < 1500 || kept < 700 || elsewhere < 300 {
		t.Error("these come to too little", turned, kept, elsewhere)
	}
}

// TestRunsAgain has runs by chance, of each kind of script.
func TestRunsAgain(t *testing.T) {
	marks, kinds := 0, map[int]int{}
	for seed := range uint64(150) {
		r := rand.New(rand.NewPCG(seed, 184))
		some := []func(r *rand.Rand) (impl.Plan, [][]impl.Call){someScript, readersScript, tellersScript, apartScript}[seed%4]
		p, progs := some(r)
		list := checkWholeAgain(t, p, progs, somePicks(r, []int{20, 90, 200, 400}[r.IntN(4)]), 7+r.IntN(40))
		marks += len(list)
		for _, m := range list {
			kinds[m.Step.Kind]++
		}
	}
	if marks < 5000 || len(kinds) != 5 || kinds[3] < 40 || kinds[4] < 100 || kinds[5] < 80 {
		t.Error("these come to too little", marks, kinds)
	}
}

// TestSmallScriptsAgain has all picks up to some length, and calms behind them.
func TestSmallScriptsAgain(t *testing.T) {
	rests, goesOn := 0, 0
	for i, x := range append(apartScripts(), smallScripts()...) {
		p := x.plan
		p.Users = len(x.texts)
		progs := progsOf(t, x.texts...)
		eachList([]int{0, 1, 2}, 4, func(list []int) {
			if len(list) < 4 {
				return
			}
			picks := slices.Concat(list, []int{i, list[0], 5})
			checkWholeAgain(t, p, progs, picks, 1)
			s, _ := impl.Start(p, progs)
			here, _ := impl.Run(s, list)
			for _, most := range []int{0, 1, list[1] + 2, 400} {
				if checkCalmIsRun(t, here, most) {
					rests++
				} else {
					goesOn++
				}
			}
		})
	}
	if rests < 1000 || goesOn < 2000 {
		t.Error("these come to too little", rests, goesOn)
	}
}

// TestCalmIsToRunByPicksOf0 has states that runs by chance come to.
func TestCalmIsToRunByPicksOf0(t *testing.T) {
	rests, goesOn := 0, 0
	for seed := range uint64(120) {
		r := rand.New(rand.NewPCG(seed, 185))
		s, _ := impl.Run(someStart(t, r), somePicks(r, r.IntN(30)))
		for _, most := range []int{0, 1, r.IntN(30), r.IntN(400), 400} {
			if checkCalmIsRun(t, s, most) {
				rests++
			} else {
				goesOn++
			}
		}
		// To calm in parts is to calm at once.
		first, second := r.IntN(30), r.IntN(30)
		part, n := impl.Calm(s, first)
		part, m := impl.Calm(part, second)
		if whole, both := impl.Calm(s, first+second); both != n+m || !impl.StateSame(part, whole) {
			t.Fatal("in parts", seed, n, m, both)
		}
	}
	if rests < 150 || goesOn < 150 {
		t.Error("these come to too little", rests, goesOn)
	}
}
