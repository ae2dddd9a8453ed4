package tests

import (
	"fmt"
	"math"
	"math/rand/v2"
	"runtime"
	"slices"
	"sync"
	"testing"

	"loop.example/g00098/impl"
)

// span is a call of a client, by the places of all its marks; the last one of these may leave it waiting.
type span struct {
	who, number int
	marks       []int
	over        bool
}

// spansBy looks at each client's marks alone, and tells all spans by their first marks.
func spansBy(progs [][]impl.Call, list []impl.Mark) ([]span, bool) {
	own := make([][]int, len(progs))
	for at, m := range list {
		if m.Step.Kind < 1 || m.Step.Kind > 3 {
			continue
		}
		if m.Step.Who < 0 || m.Step.Who >= len(progs) {
			return nil, false
		}
		own[m.Step.Who] = append(own[m.Step.Who], at)
	}
	byFirst := map[int]span{}
	for who, rest := range own {
		for number := 0; len(rest) > 0; number++ {
			n, over := spanLength(list, rest)
			if list[rest[0]].Step.Kind != 1 || number == len(progs[who]) || !over && n < len(rest) {
				return nil, false
			}
			byFirst[rest[0]] = span{who, number, rest[:n], over}
			rest = rest[n:]
		}
	}
	var all []span
	for at := range list {
		if x, ok := byFirst[at]; ok {
			all = append(all, x)
		}
	}
	return all, len(list) < 401
}

// spanLength is how many of these marks are of the first one's call, and whether that is over with the last one of them.
func spanLength(list []impl.Mark, rest []int) (int, bool) {
	for n, at := range rest {
		if m := list[at]; n > 0 && m.Step.Kind == 1 {
			return n, false
		} else if m.Step.Kind == 3 || m.Reply.Code != 4 {
			return n + 1, true
		}
	}
	return len(rest), false
}

func recordsBy(progs [][]impl.Call, list []impl.Mark) ([]impl.Rec, bool) {
	spans, ok := spansBy(progs, list)
	if !ok {
		return nil, false
	}
	var recs []impl.Rec
	for _, x := range spans {
		at := x.marks[len(x.marks)-1]
		r := impl.Rec{Who: x.who, Number: x.number, Call: progs[x.who][x.number], First: x.marks[0], Last: -1, Code: list[at].Reply.Code}
		if x.over {
			r.Last = at
		}
		recs = append(recs, r)
	}
	return recs, true
}

// heardAnswer and tallyAnswer are what Heard and Tally answer.
type heardAnswer struct {
	numbers []int
	lost    int
	ok      bool
}

type tallyAnswer struct {
	told, wentOn, calledOff int
	ok                      bool
}

func heardOf(progs [][]impl.Call, list []impl.Mark, who int, place int) heardAnswer {
	numbers, lost, ok := impl.Heard(progs, list, who, place)
	return heardAnswer{numbers, lost, ok}
}

func tallyOf(progs [][]impl.Call, list []impl.Mark, note int) tallyAnswer {
	a, b, c, ok := impl.Tally(progs, list, note)
	return tallyAnswer{a, b, c, ok}
}

// heardBy goes mark by mark, and looks which call each is of.
func heardBy(progs [][]impl.Call, list []impl.Mark, who int, place int) heardAnswer {
	spans, ok := spansBy(progs, list)
	if !ok || who < 0 || who >= len(progs) {
		return heardAnswer{}
	}
	a := heardAnswer{ok: true}
	for at, m := range list {
		if m.Reply.Code != 0 {
			continue
		}
		for _, x := range spans {
			if c := progs[x.who][x.number]; x.who != who || c.Op != 15 || c.B != place || !slices.Contains(x.marks, at) {
				continue
			}
			a.lost += m.Reply.M
			if m.Reply.M == 0 {
				a.numbers = append(a.numbers, m.Reply.N)
			}
		}
	}
	return a
}

func tallyBy(progs [][]impl.Call, list []impl.Mark, note int) tallyAnswer {
	recs, ok := recordsBy(progs, list)
	count := func(op int, code int) int {
		n := 0
		for _, x := range recs {
			if x.Call.Op == op && x.Call.A == note && x.Last >= 0 && x.Code == code {
				n++
			}
		}
		return n
	}
	return tallyAnswer{count(1, 0), count(3, 0), count(3, 7), ok}
}

var fillMark = impl.Mark{Step: impl.Step{Kind: filler, Who: filler}, Reply: impl.Reply{N: filler}}

// histGiven is what was handed in, and how it was ahead of the call.
type histGiven struct {
	progs, before [][]impl.Call
	list, marks   []impl.Mark
}

func giveHistory(progs [][]impl.Call, list []impl.Mark) histGiven {
	g := histGiven{progs: roomyEach(progs, []impl.Call{fillCall}, roomyCalls), list: littleRoom(list, fillMark)}
	g.before = cloneEach(roomOf(g.progs), func(x []impl.Call) []impl.Call { return cloneCalls(wholeCalls(x)) })
	g.marks = slices.Clone(roomOf(g.list))
	return g
}

func (g histGiven) checkKept(t *testing.T, what string) {
	t.Helper()
	now := cloneEach(roomOf(g.progs), wholeCalls)
	if !slices.EqualFunc(now, g.before, samePrograms) || !slices.Equal(roomOf(g.list), g.marks) {
		t.Fatalf("%s: what was handed in has changed: %s, %s", what, brief(g.before), brief(g.marks))
	}
}

// recPlaces is where a number can be laid into records, their calls and the Filters of these, and into the room behind them.
func recPlaces(recs []impl.Rec) []*int {
	return placesIn(recs, func(x *impl.Rec) []*int {
		filter := placesIn(x.Call.Filter, func(term *impl.Term) []*int { return []*int{&term.Op, &term.Num} })
		return append(filter, &x.Who, &x.Number, &x.First, &x.Last, &x.Code, &x.Call.Op, &x.Call.A, &x.Call.B)
	})
}

// checkHistory holds all functions against the second way, twice, and spoils what they answer; it tells whether the marks can be.
func checkHistory(t *testing.T, progs [][]impl.Call, list []impl.Mark) bool {
	t.Helper()
	want, right := recordsBy(progs, list)
	g := giveHistory(progs, list)
	for range 2 {
		recs, ok := impl.Records(g.progs, g.list)
		if ok != right || !slices.EqualFunc(recs, want, sameRec) {
			t.Fatalf("Records(%s, %s)\n= %s, %v\nwant %s, %v", brief(progs), brief(list), brief(recs), ok, brief(want), right)
		}
		g.checkKept(t, "Records")
		if !lieApart(recPlaces(recs)) {
			t.Fatal("two lists of the answer share memory", brief(progs), brief(list))
		}
		g.checkKept(t, "what Records tells shares memory")
		if ok := impl.Orders(g.progs, g.list); ok != right {
			t.Fatalf("Orders(%s, %s) = %v", brief(progs), brief(list), ok)
		}
		g.checkKept(t, "Orders")
	}
	return right
}

// checkHeardAt and checkTallyAt hold one answer against the second way.
func checkHeardAt(t *testing.T, progs [][]impl.Call, list []impl.Mark, who int, place int) heardAnswer {
	t.Helper()
	want := heardBy(progs, list, who, place)
	g := giveHistory(progs, list)
	for range 2 {
		a := heardOf(g.progs, g.list, who, place)
		if a.ok != want.ok || a.lost != want.lost || !slices.Equal(a.numbers, want.numbers) {
			t.Fatalf("Heard(%s, %s, %d, %d) = %v; want %v", brief(progs), brief(list), who, place, a, want)
		}
		spoilWith(a.numbers, func(int) int { return filler + 1 })
		g.checkKept(t, "Heard")
	}
	return want
}

func checkTallyAt(t *testing.T, progs [][]impl.Call, list []impl.Mark, note int) tallyAnswer {
	t.Helper()
	want := tallyBy(progs, list, note)
	g := giveHistory(progs, list)
	for range 2 {
		if a := tallyOf(g.progs, g.list, note); a != want {
			t.Fatalf("Tally(%s, %s, %d) = %v; want %v", brief(progs), brief(list), note, a, want)
		}
		g.checkKept(t, "Tally")
	}
	return want
}

// checkWhole asks all functions, at all that there is and around it.
func checkWhole(t *testing.T, progs [][]impl.Call, list []impl.Mark) bool {
	t.Helper()
	right := checkHistory(t, progs, list)
	for who := -1; who <= len(progs); who++ {
		for place := -1; place <= 2; place++ {
			checkHeardAt(t, progs, list, who, place)
		}
	}
	for note := -1; note <= 2; note++ {
		checkTallyAt(t, progs, list, note)
	}
	return right
}

// fewMarks are those of two clients, a third that is none, and others, with the codes that matter.
func fewMarks() []impl.Mark {
	list := []impl.Mark{mark(stepTick(), impl.Reply{N: 3}), called(2, 0), ended(-1, 0), {}}
	for who := range 2 {
		list = append(list, called(who, 0), called(who, 4), ended(who, 0), ended(who, 4), aborted(who, 7), aborted(who, 4))
	}
	return list
}

// TestEveryFewMarks goes through all rows of up to four marks, of programs of few calls.
func TestEveryFewMarks(t *testing.T) {
	progs := progsOf(t, "await 0\nsub 0 if num\n", "recv 0\ntell 0\nrecv 0\n")
	for i, x := range [][][]impl.Call{progs, {progs[1][:1], progs[0][1:]}} {
		right, all := 0, 0
		eachList(fewMarks(), 4, func(list []impl.Mark) {
			all++
			if i == 1 && all%7 > 0 {
				return
			}
			if checkHistory(t, x, list) {
				right++
			}
			if all%41 == 0 {
				checkWhole(t, x, list)
			}
		})
		if right < 90 {
			t.Error("how many can be", i, right, all)
		}
	}
}

// TestHistoriesOfEachLengthOfPrograms has clients with as many calls as marks, with less and with more.
func TestHistoriesOfEachLengthOfPrograms(t *testing.T) {
	right := 0
	for calls := range 5 {
		prog := slices.Repeat([]impl.Call{asks(impl.OpAwait, 0), takes(impl.OpRecv, 1), asks(impl.OpTell, 0), subscribes(0, 1, nots(5))}, 2)[calls : 2*calls]
		eachList([]impl.Mark{called(0, 0), called(0, 4), ended(0, 0), called(1, 4)}, 5, func(list []impl.Mark) {
			if checkHistory(t, [][]impl.Call{prog, prog[:calls/2]}, list) {
				right++
			}
		})
	}
	if right < 220 {
		t.Error("how many can be", right)
	}
}

// readersScript has clients that publish, and such as read at several places: far more is told, and lost, than in someScript.
func readersScript(r *rand.Rand) (impl.Plan, [][]impl.Call) {
	p := impl.Plan{Tokens: []int{-1, 0}, Notes: 2, Names: []string{"a", "b", "c"}, Caps: []int{1 + r.IntN(3), 1 + r.IntN(3), 1 + r.IntN(5)}}
	if r.IntN(2) == 0 {
		p.Weaves = []impl.Weave{{From: []int{0, 1}, Into: 2}}
	}
	var progs [][]impl.Call
	for range 1 + r.IntN(2) {
		var prog []impl.Call
		for range 30 {
			c := publishes([]string{"a", "b", "*", "c"}[r.IntN(4)], sentAs(r.IntN(400)))
			if r.IntN(5) == 0 {
				c = []impl.Call{asks(impl.OpTell, 0), asks(impl.OpTell, 1), asks(impl.OpTellAll, 1), asks(impl.OpCancel, 1), asks(impl.OpClose, r.IntN(3)), asksWith(impl.OpTimer, 3, 0)}[r.IntN(6)]
			}
			prog = append(prog, c)
		}
		progs = append(progs, prog)
	}
	for range 2 + r.IntN(3) {
		prog := []impl.Call{subscribes(r.IntN(3), 0, nil), subscribes(2, r.IntN(2), subFilters()[r.IntN(6)])}
		for range 28 {
			c := byToken(takes(impl.OpRecv, r.IntN(2)), r.IntN(3)-1)
			if r.IntN(6) == 0 {
				c = []impl.Call{byToken(asks(impl.OpAwait, 0), r.IntN(2)-1), byToken(asks(impl.OpAwait, 1), 1), subscribes(0, 1, nil), takes(impl.OpUnsub, r.IntN(2)), takes(impl.OpRecv, 2)}[r.IntN(5)]
			}
			prog = append(prog, c)
		}
		progs = append(progs, prog)
	}
	p.Users = len(progs)
	return p, progs
}

// tellersScript has clients that tell one another, and wait for it.
func tellersScript(r *rand.Rand) (impl.Plan, [][]impl.Call) {
	p := impl.Plan{Tokens: []int{-1, 0, -1}, Notes: 2, Users: 2 + r.IntN(5)}
	var progs [][]impl.Call
	for range p.Users {
		var prog []impl.Call
		for range 30 {
			note := r.IntN(2)
			c := []impl.Call{asks(impl.OpTell, note), byToken(asks(impl.OpAwait, note), r.IntN(4)-1)}[r.IntN(2)]
			if r.IntN(12) == 0 {
				c = []impl.Call{asks(impl.OpTellAll, note), asks(impl.OpCancel, 1), asksWith(impl.OpTimer, 9, r.IntN(3)), asks(impl.OpAwait, 2)}[r.IntN(4)]
			}
			prog = append(prog, c)
		}
		progs = append(progs, prog)
	}
	return p, progs
}

// someHistory is what a run by chance tells, with its plan, its programs and its end.
func someHistory(t *testing.T, r *rand.Rand) (impl.Plan, [][]impl.Call, impl.State, []impl.Mark) {
	t.Helper()
	script := []func(r *rand.Rand) (impl.Plan, [][]impl.Call){someScript, readersScript, tellersScript}[r.IntN(3)]
	p, progs := script(r)
	s, code := impl.Start(p, progs)
	if code != impl.Done {
		t.Fatal("not started", brief(p), brief(progs))
	}
	end, list := impl.Run(s, somePicks(r, []int{10, 60, 150, 400}[r.IntN(4)]))
	return p, progs, end, list
}

// marksChange makes marks by chance others, which may still be right.
func marksChange(r *rand.Rand, list []impl.Mark) []impl.Mark {
	list = slices.Clone(list)
	if len(list) == 0 {
		return append(list, called(r.IntN(3)-1, 0))
	}
	at, other := r.IntN(len(list)), r.IntN(len(list))
	m := &list[at]
	switch r.IntN(9) {
	case 0:
		return slices.Delete(list, at, at+1)
	case 1:
		return slices.Insert(list, at, list[other])
	case 2:
		list[at], list[other] = list[other], list[at]
	case 3:
		m.Step.Kind = r.IntN(8) - 1
	case 4:
		m.Step.Who = []int{r.IntN(7), -1, 64}[r.IntN(3)]
	case 5, 6:
		m.Reply.Code = []int{0, 4, 7, r.IntN(9)}[r.IntN(4)]
	case 7:
		m.Reply.N, m.Reply.M = r.IntN(5), r.IntN(3)
	case 8:
		return list[:at]
	}
	return list
}

// TestSomeHistoriesByTheSecondWay begins at the marks of runs, and changes them more and more.
func TestSomeHistoriesByTheSecondWay(t *testing.T) {
	right, wrong, heard, lost, calledOff := 0, 0, 0, 0, 0
	for seed := range uint64(150) {
		r := rand.New(rand.NewPCG(seed, 17))
		_, progs, _, list := someHistory(t, r)
		for range 12 {
			if checkHistory(t, progs, list) {
				right++
			} else {
				wrong++
			}
			for who := range progs {
				x := checkHeardAt(t, progs, list, who, r.IntN(3))
				heard, lost = heard+len(x.numbers), lost+x.lost
			}
			calledOff += checkTallyAt(t, progs, list, r.IntN(3)).calledOff
			// Of what can't be there is mostly no way back.
			if d := marksChange(r, list); len(d) > 0 && (r.IntN(4) == 0 || checkHistory(t, progs, d)) {
				list = d
			}
		}
	}
	if right < 700 || wrong < 200 || heard < 500 || lost < 100 || calledOff < 100 {
		t.Error("these come to too little", right, wrong, heard, lost, calledOff)
	}
}

// TestHistoriesOfOddNumbers has numbers at the edges of what an int can be, wherever one stands.
func TestHistoriesOfOddNumbers(t *testing.T) {
	numbers := []int{math.MinInt, math.MinInt + 1, -1 << 32, -2, -1, 0, 1, 2, 3, 4, 5, 7, 63, 64, 1 << 32, 1<<32 + 1, math.MaxInt}
	progs := append(progsOf(t, "recv 0\ntell 0\nawait 0\nrecv 0\n", "await 1\n"), nil)
	for i, a := range numbers {
		for j, b := range numbers {
			checkHistory(t, progs, marksOf(mark(impl.Step{Kind: a, Who: b, Leg: a}, impl.Reply{Code: b})))
			checkHistory(t, progs, marksOf(called(0, 4), mark(impl.Step{Kind: a, Who: b, Leg: b}, impl.Reply{Code: a, N: b})))
			checkWhole(t, progs, marksOf(mark(stepCall(0), impl.Reply{N: a, M: b}), called(1, a), called(0, b), called(0, a), mark(stepCall(0), impl.Reply{N: b, M: a})))
			odd := [][]impl.Call{{{Op: 15, A: a, B: b, Tok: a}, {Op: a, A: b, B: a}, {Op: 3, A: b, Tok: a}, {Op: 1, A: b}}}
			list := marksOf(mark(stepCall(0), hears(i)), called(0, 4), ended(0, 0), called(0, []int{0, 7}[j%2]), called(0, 0))
			if a := checkHeardAt(t, odd, list, 0, b); len(a.numbers) == 0 || a.numbers[0] != i {
				t.Error("heard", a)
			}
			if a := checkTallyAt(t, odd, list, b); a.told == 0 || a.wentOn+a.calledOff == 0 {
				t.Error("tally", a)
			}
			checkHeardAt(t, progs, list, a, b)
		}
	}
}

// TestHistoriesOfOddCalls has programs of calls that are not right, and of too many.
func TestHistoriesOfOddCalls(t *testing.T) {
	odd := slices.Concat(notCalls(), unwritten(), slices.Concat(oddPrograms()...))
	r := rand.New(rand.NewPCG(2, 17))
	right := 0
	for i := range odd {
		progs := [][]impl.Call{odd[i:min(i+3, len(odd))], odd[max(0, i-9):i], nil, slices.Repeat(odd[i:i+1], 12)}
		var list []impl.Mark
		for range 30 {
			m := []impl.Mark{called(r.IntN(4), []int{0, 4, 7}[r.IntN(3)]), ended(r.IntN(4), r.IntN(5)), aborted(r.IntN(4), 7)}[r.IntN(3)]
			if d := append(list, m); r.IntN(60) == 0 || checkHistory(t, progs, d) {
				list = d
			}
		}
		if checkWhole(t, progs, list) {
			right++
		}
	}
	if right < 100 {
		t.Error("how many can be", right)
	}
}

// TestManyMarks is at the edges of how many there may be.
func TestManyMarks(t *testing.T) {
	progs := slices.Repeat(progsOf(t, "await 0\nrecv 0\ntell 0\nrecv 0\nawait 1\n"), 40)
	r := rand.New(rand.NewPCG(3, 17))
	var list []impl.Mark
	at, waits := make([]int, 40), make([]bool, 40)
	for len(list) < 402 {
		who, n := r.IntN(40), []int{0, 0, 4, 4, 7}[r.IntN(5)]
		switch {
		case waits[who]:
			list = append(list, []impl.Mark{ended(who, n), aborted(who, 7)}[r.IntN(2)])
			waits[who] = list[len(list)-1].Reply.Code == 4
		case at[who] < 5:
			list = append(list, called(who, n))
			waits[who] = n == 4
			at[who]++
		default:
			list = append(list, mark(stepLeg(0, who%6), impl.Reply{}))
		}
	}
	for _, n := range []int{0, 1, 100, 398, 399, 400, 401, 402} {
		if checkHistory(t, progs, list[:n]) != (n <= 400) {
			t.Error("of many", n)
		}
		checkHeardAt(t, progs, list[:n], 3, 0)
		checkTallyAt(t, progs, list[:n], 0)
	}
}

// TestHistoriesThatShareTheirLists hands in one program for all clients, one Filter for all calls, and marks that are a piece of others.
func TestHistoriesThatShareTheirLists(t *testing.T) {
	room := roomyWith(nots(12), fillTerm)
	prog := []impl.Call{subscribes(0, 0, room[:2]), subscribes(0, 1, room[:4]), subscribes(0, 1, room[:3]), fillCall}
	progs := slices.Repeat([][]impl.Call{prog[:3]}, 4)
	list := slices.Repeat(marksOf(called(0, 0), called(1, 4), called(2, 7), ended(1, 0), called(3, 4)), 2)
	before, kept := slices.Clone(list), cloneCalls(prog)
	for n := range 10 {
		want, _ := recordsBy(slices.Repeat([][]impl.Call{cloneCalls(prog[:3])}, 4), slices.Clone(list[:n]))
		recs, ok := impl.Records(progs, list[:n])
		if !ok || !slices.EqualFunc(recs, want, sameRec) {
			t.Fatal("records", n, brief(recs), ok)
		}
		impl.Heard(progs, list[:n], 1, 0)
		impl.Tally(progs, list[:n], 0)
		impl.Orders(progs, list[:n])
		if !lieApart(recPlaces(recs)) || !slices.Equal(list, before) || !samePrograms(prog, kept) || !roomKeptWith(room, nots(12), fillTerm) {
			t.Fatal("shared memory", n)
		}
	}
}

// TestHistoriesAnswerTheSame asks again and again, and from many callers at one time, of many who wait at once.
func TestHistoriesAnswerTheSame(t *testing.T) {
	prog := progsOf(t, "await 0\nrecv 0\nrecv 0\n")[0]
	progs := slices.Repeat([][]impl.Call{prog}, 60)
	var list []impl.Mark
	for i := range 60 {
		list = append(list, called(i*13%60, []int{0, 4}[i%2]))
	}
	for i := range 60 {
		if who := i * 13 % 60; i%2 == 0 {
			list = append(list, mark(stepCall(who), hears(i)))
		}
	}
	tell := func() string {
		recs, ok := impl.Records(progs, list)
		return fmt.Sprint(recs, ok, heardOf(progs, list, 26, 0), tallyOf(progs, list, 0), impl.Orders(progs, list))
	}
	want := tell()
	if _, ok := impl.Records(progs, list); !ok {
		t.Fatal("they can't be")
	}
	ask := func() {
		for range 20 {
			if got := tell(); got != want {
				t.Error("another one", got)
			}
		}
	}
	threads := runtime.GOMAXPROCS(0)
	defer runtime.GOMAXPROCS(threads)
	for _, n := range []int{1, threads} {
		runtime.GOMAXPROCS(n)
		ask()
		var callers sync.WaitGroup
		for range 8 {
			callers.Go(ask)
		}
		callers.Wait()
	}
}
