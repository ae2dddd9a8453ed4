package tests

import (
	"math"
	"math/rand/v2"
	"slices"
	"testing"

	"loop.example/g00098/impl"
)

// The tests of this file hold what histories tell against the states that the runs came to, as the promise says it.

// watched is a run that is gone once more, step by step, and what has been seen on the way.
type watched struct {
	progs     [][]impl.Call
	marks     []impl.Mark
	s         impl.State
	subs      map[[2]int]impl.Sub
	byAll     []int
	calledOff []int
}

func watch(s impl.State) *watched {
	w := &watched{s: s, subs: map[[2]int]impl.Sub{}, byAll: make([]int, len(s.Hub.Notes)), calledOff: make([]int, len(s.Hub.Notes))}
	for _, c := range s.Clients {
		w.progs = append(w.progs, c.Prog)
	}
	return w
}

func (w *watched) goOn(t *testing.T, m impl.Mark) {
	t.Helper()
	if m.Step.Kind < 4 {
		c := w.s.Clients[m.Step.Who]
		switch call := c.Prog[c.At]; {
		case call.Op == impl.OpTellAll && m.Reply.Code == impl.Done:
			w.byAll[call.A] += m.Reply.N
		case call.Op == impl.OpAwait && m.Reply.Code == impl.Off:
			w.calledOff[call.A]++
		}
	}
	s, r, ok := impl.Take(w.s, m.Step)
	if !ok || r != m.Reply {
		t.Fatal("told otherwise", m, r, ok, brief(w.s))
	}
	w.s, w.marks = s, append(w.marks, m)
	for who, u := range s.Hub.Users {
		for place, hit := range u.Subs {
			// One that is gone stays as it was seen last: it hears no more.
			for _, sub := range s.Hub.Topics[hit.Topic].Ring.Subs {
				if sub.Id == hit.Id {
					w.subs[[2]int{who, place}] = sub
				}
			}
		}
	}
}

// checkCalls: each client's calls are its first ones in their order, none begins ahead of the end of the one ahead, and just who is Waiting has one that is not over.
func (w *watched) checkCalls(t *testing.T) {
	t.Helper()
	recs, ok := impl.Records(w.progs, w.marks)
	if !ok || !impl.Orders(w.progs, w.marks) {
		t.Fatal("not right", ok, brief(w.marks))
	}
	begun, end, first := make([]int, len(w.progs)), slices.Repeat([]int{-1}, len(w.progs)), -1
	for _, x := range recs {
		if x.First <= first || x.First <= end[x.Who] || w.marks[x.First].Step != stepCall(x.Who) {
			t.Fatal("begins elsewhere", x, brief(w.marks))
		}
		if x.Number != begun[x.Who] || !sameCall(x.Call, w.progs[x.Who][x.Number]) {
			t.Fatal("another call", x, brief(w.marks))
		}
		first, end[x.Who] = x.First, x.Last
		begun[x.Who]++
		if x.Last == -1 {
			end[x.Who] = math.MaxInt
			if x.Code != impl.Waits {
				t.Fatal("does not wait", x, brief(w.marks))
			}
			continue
		}
		if m := w.marks[x.Last]; m.Step.Who != x.Who || m.Step.Kind > 3 || m.Reply.Code != x.Code || x.Last < x.First || x.Code == impl.Waits {
			t.Fatal("over elsewhere", x, brief(w.marks))
		}
	}
	for who, c := range w.s.Clients {
		waits := end[who] == math.MaxInt
		if waits != c.Waiting || waits && begun[who] != c.At+1 || !waits && begun[who] != c.At {
			t.Fatal("is elsewhere", who, begun[who], waits, brief(w.s))
		}
	}
}

// checkTallies: what was told is what the Note has counted, and nobody went on who was not told.
func (w *watched) checkTallies(t *testing.T) (told int, wentOn int, calledOff int) {
	t.Helper()
	for i, n := range w.s.Hub.Notes {
		a, b, c, ok := impl.Tally(w.progs, w.marks, i)
		open := n.Spilt
		if n.Permit {
			open++
		}
		byAll := 0
		for _, g := range n.Grants {
			if g.One {
				open++
			} else {
				byAll++
			}
		}
		if !ok || a != n.Ones || a != n.Taken+open {
			t.Fatal("told", i, a, n, brief(w.marks))
		}
		if b < n.Taken || b-n.Taken > w.byAll[i]-byAll || b > a && w.byAll[i] == 0 {
			t.Fatal("went on", i, b, w.byAll[i], n, brief(w.marks))
		}
		if c != w.calledOff[i] {
			t.Fatal("called off", i, c, w.calledOff[i], brief(w.marks))
		}
		told, wentOn, calledOff = told+a, wentOn+b, calledOff+c
	}
	if a, b, c, ok := impl.Tally(w.progs, w.marks, len(w.s.Hub.Notes)); !ok || a != 0 || b != 0 || c != 0 {
		t.Fatal("of a Note that is not there", a, b, c, ok)
	}
	return told, wentOn, calledOff
}

// checkHeard: numbers that rise, as many as were got, and as many lost.
func (w *watched) checkHeard(t *testing.T) (heard int, missed int) {
	t.Helper()
	for who, u := range w.s.Hub.Users {
		for place := -1; place <= len(u.Subs); place++ {
			sub := w.subs[[2]int{who, place}]
			numbers, lost, ok := impl.Heard(w.progs, w.marks, who, place)
			if !ok || len(numbers) != sub.Got || lost != sub.Lost {
				t.Fatal("heard", who, place, numbers, lost, sub, brief(w.marks))
			}
			least := sub.Start
			for _, n := range numbers {
				if n < least || n >= sub.Cursor {
					t.Fatal("does not rise", who, place, numbers, sub, brief(w.marks))
				}
				least = n + 1
			}
			heard, missed = heard+len(numbers), missed+lost
		}
	}
	return heard, missed
}

// runTally counts what was come to.
type runTally struct {
	marks, told, wentOn, calledOff, heard, missed, waiting, gone int
}

// checkRunHistory looks at the promise behind each step, or each few; all of it behind the last one.
func checkRunHistory(t *testing.T, s impl.State, marks []impl.Mark, every int, tally *runTally) {
	t.Helper()
	w := watch(s)
	w.checkCalls(t)
	w.checkTallies(t)
	w.checkHeard(t)
	for i, m := range marks {
		w.goOn(t, m)
		if i%every == 0 || i == len(marks)-1 {
			w.checkCalls(t)
			w.checkTallies(t)
			w.checkHeard(t)
		}
	}
	told, wentOn, calledOff := w.checkTallies(t)
	heard, missed := w.checkHeard(t)
	tally.marks, tally.told, tally.wentOn, tally.calledOff = tally.marks+len(marks), tally.told+told, tally.wentOn+wentOn, tally.calledOff+calledOff
	tally.heard, tally.missed, tally.waiting = tally.heard+heard, tally.missed+missed, tally.waiting+len(impl.Stuck(w.s))
	for who, u := range w.s.Hub.Users {
		for place, hit := range u.Subs {
			ring := w.s.Hub.Topics[hit.Topic].Ring
			if sub := w.subs[[2]int{who, place}]; sub.Got > 0 && !slices.ContainsFunc(ring.Subs, func(x impl.Sub) bool { return x.Id == hit.Id }) {
				tally.gone++
			}
		}
	}
}

func (a runTally) atLeast(t *testing.T, b runTally) {
	t.Helper()
	if a.marks < b.marks || a.told < b.told || a.wentOn < b.wentOn || a.calledOff < b.calledOff || a.heard < b.heard || a.missed < b.missed || a.waiting < b.waiting || a.gone < b.gone {
		t.Errorf("these runs come to too little: %+v", a)
	}
}

// TestHistoriesOfSmallScripts has all picks up to some length, and the run's end behind them.
func TestHistoriesOfSmallScripts(t *testing.T) {
	var tally runTally
	for _, x := range smallScripts() {
		s := begun(t, x.plan, x.texts...)
		eachList([]int{0, 1, 2}, 5, func(list []int) {
			if len(list) < 5 {
				return
			}
			_, marks := impl.Run(s, slices.Concat(list, slices.Repeat(list[:2], 20)))
			checkRunHistory(t, s, marks, 3, &tally)
		})
	}
	tally.atLeast(t, runTally{marks: 20000, told: 1500, wentOn: 1500, calledOff: 400, heard: 700, missed: 50, waiting: 400, gone: 10})
}

// TestHistoriesOfRuns has runs by chance.
func TestHistoriesOfRuns(t *testing.T) {
	var tally runTally
	for seed := range uint64(240) {
		r := rand.New(rand.NewPCG(seed, 171))
		p, progs, end, marks := someHistory(t, r)
		s, _ := impl.Start(p, progs)
		checkRunHistory(t, s, marks, 4, &tally)
		if w := impl.Stuck(end); len(w) > 0 {
			recs, _ := impl.Records(progs, marks)
			var waits []int
			for _, x := range recs {
				if x.Last == -1 {
					waits = append(waits, x.Who)
				}
			}
			slices.Sort(waits)
			if !slices.Equal(waits, w) {
				t.Fatal("who waits", waits, w)
			}
		}
	}
	tally.atLeast(t, runTally{marks: 5000, told: 150, wentOn: 100, calledOff: 80, heard: 400, missed: 200, waiting: 100, gone: 5})
}

// TestEachBeginningOfAHistory: what is told of a beginning stays so, but that what waited may be over by then.
func TestEachBeginningOfAHistory(t *testing.T) {
	over, waits := 0, 0
	for seed := range uint64(80) {
		_, progs, _, marks := someHistory(t, rand.New(rand.NewPCG(seed, 172)))
		all, _ := impl.Records(progs, marks)
		for n := range len(marks) + 1 {
			recs, ok := impl.Records(progs, marks[:n])
			if !ok || len(recs) > len(all) || len(recs) < len(all) && all[len(recs)].First < n {
				t.Fatal("how many", seed, n, len(recs), len(all))
			}
			for i, x := range recs {
				if !sameRec(x, all[i]) && (x.Last != -1 || x.Code != impl.Waits || all[i].Last != -1 && all[i].Last < n || x.First != all[i].First || x.Who != all[i].Who || x.Number != all[i].Number) {
					t.Fatal("another one", seed, n, x, all[i])
				}
				if x.Last == -1 {
					waits++
				} else {
					over++
				}
			}
		}
	}
	if over < 10000 || waits < 1000 {
		t.Error("these come to too little", over, waits)
	}
}

// TestOtherMarksAreNoHistory: of a run's marks none of a client's may be missing, or stand twice, where another one hangs on it.
func TestOtherMarksAreNoHistory(t *testing.T) {
	ends, early := 0, 0
	for seed := range uint64(180) {
		_, progs, _, marks := someHistory(t, rand.New(rand.NewPCG(seed, 173)))
		recs, _ := impl.Records(progs, marks)
		for i, x := range recs {
			if x.Last <= x.First {
				continue
			}
			later := slices.ContainsFunc(recs[i+1:], func(y impl.Rec) bool { return y.Who == x.Who })
			if _, ok := impl.Records(progs, slices.Delete(slices.Clone(marks), x.First, x.First+1)); ok {
				t.Fatal("an end of what has not begun", seed, x)
			}
			if _, ok := impl.Records(progs, slices.Delete(slices.Clone(marks), x.Last, x.Last+1)); ok == later {
				t.Fatal("a call ahead of the end of the one ahead", seed, x, ok)
			}
			if _, ok := impl.Records(progs, slices.Insert(slices.Clone(marks), x.Last, marks[x.Last])); ok {
				t.Fatal("an end twice", seed, x)
			}
			ends++
			if later {
				moved := slices.Delete(slices.Clone(marks), x.Last, x.Last+1)
				if impl.Orders(progs, append(moved, marks[x.Last])) {
					t.Fatal("an end behind the next call", seed, x)
				}
				early++
			}
		}
	}
	if ends < 300 || early < 200 {
		t.Error("these come to too little", ends, early)
	}
}
