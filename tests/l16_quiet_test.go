package tests

import (
	"fmt"
	"math"
	"math/rand/v2"
	"reflect"
	"runtime"
	"slices"
	"sync"
	"testing"

	"loop.example/g00098/impl"
)

// quietAnswer is what the functions of quiet answer.
type quietAnswer struct {
	quiet    bool
	stuck    []int
	breaches []impl.Breach
	kept     []int
}

func quietOf(s impl.State) quietAnswer {
	return quietAnswer{impl.Quiet(s), impl.Stuck(s), impl.Breaches(s), impl.Kept(s)}
}

func sameQuiet(a quietAnswer, b quietAnswer) bool {
	return a.quiet == b.quiet && slices.Equal(a.stuck, b.stuck) && slices.Equal(a.breaches, b.breaches) && slices.Equal(a.kept, b.kept)
}

// eachWait is all that a client could wait at.
func eachWait(h impl.Hub, who int) []impl.Call {
	var list []impl.Call
	for _, x := range []struct{ op, count int }{{3, len(h.Notes)}, {6, len(h.Events)}, {8, len(h.Latches)}, {11, len(h.Cells)}} {
		for n := range x.count {
			list = append(list, asks(x.op, n))
		}
	}
	for place := range h.Users[who].Subs {
		list = append(list, takes(15, place))
	}
	return list
}

// waitsThere tells whether a client is Waiting at just what x names.
func waitsThere(s impl.State, who int, x impl.Call) bool {
	c := s.Clients[who]
	if !c.Waiting || c.Prog[c.At].Op != x.Op {
		return false
	}
	call, subs := c.Prog[c.At], s.Hub.Users[who].Subs
	if x.Op == 15 {
		return call.B >= 0 && call.B < len(subs) && subs[call.B] == subs[x.B]
	}
	return call.A == x.A
}

func isLooseBy(s impl.State, who int) bool {
	stands := 0
	for _, x := range eachWait(s.Hub, who) {
		line, grants, number := standsAt(s.Hub, who, x)
		if !slices.Contains(line, number) && !slices.Contains(grants, number) {
			continue
		}
		if !waitsThere(s, who, x) {
			return true
		}
		stands++
	}
	return stands == 0 && s.Clients[who].Waiting
}

func isBehindBy(s impl.State, cell int) bool {
	for who, u := range s.Hub.Users {
		if slices.Contains(s.Hub.Cells[cell].Line, who) && u.Seen[cell] < s.Hub.Cells[cell].Version {
			return true
		}
	}
	return false
}

func quietBy(s impl.State) quietAnswer {
	if !stateIsRight(s) {
		return quietAnswer{}
	}
	a := quietAnswer{quiet: len(stepsBy(s)) == 0}
	for at := range s.Hub.Cells {
		if isBehindBy(s, at) {
			a.breaches = append(a.breaches, impl.Breach{Kind: 1, At: at})
		}
	}
	for who, c := range s.Clients {
		if isLooseBy(s, who) {
			a.breaches = append(a.breaches, impl.Breach{Kind: 2, At: who})
		}
		if c.Waiting {
			a.stuck = append(a.stuck, who)
		}
	}
	for _, x := range s.Hub.Topics {
		a.kept = append(a.kept, len(x.Ring.Items))
	}
	return a
}

// checkQuiet holds all functions against the second way, twice, and spoils what they answer: what was handed in may not change by it.
func checkQuiet(t *testing.T, s impl.State) quietAnswer {
	t.Helper()
	want := quietBy(s)
	g := giveState(s)
	for range 2 {
		got := quietOf(g.s)
		g.checkKept(t, "quiet")
		if !sameQuiet(got, want) {
			t.Fatalf("of %s\n= %+v\nwant %+v", brief(s), got, want)
		}
		spoilWith(got.stuck, func(int) int { return filler + 1 })
		spoilWith(got.breaches, func(impl.Breach) impl.Breach { return impl.Breach{Kind: filler + 1, At: filler + 1} })
		spoilWith(got.kept, func(int) int { return filler + 2 })
		g.checkKept(t, "what is told of quiet shares memory")
		if !slices.Equal(got.stuck, slices.Repeat([]int{filler + 1}, len(want.stuck))) {
			t.Fatal("two lists that are told share memory", brief(s))
		}
	}
	return want
}

// quietTally counts what was come to.
type quietTally struct {
	quiet, right, behind, loose, stuck int
}

func (c *quietTally) add(s impl.State, a quietAnswer) {
	one := func(n *int, is bool) {
		if is {
			*n++
		}
	}
	one(&c.quiet, a.quiet)
	one(&c.right, stateIsRight(s))
	one(&c.behind, slices.ContainsFunc(a.breaches, func(b impl.Breach) bool { return b.Kind == 1 }))
	one(&c.loose, slices.ContainsFunc(a.breaches, func(b impl.Breach) bool { return b.Kind == 2 }))
	one(&c.stuck, len(a.stuck) > 0)
}

func (c *quietTally) atLeast(t *testing.T, n quietTally) {
	t.Helper()
	if c.quiet < n.quiet || c.right < n.right || c.behind < n.behind || c.loose < n.loose || c.stuck < n.stuck {
		t.Errorf("these come to too little: %+v", *c)
	}
}

// TestQuietAtEachPlace changes states by hand at each place, one at a time.
func TestQuietAtEachPlace(t *testing.T) {
	var c quietTally
	kinds, _ := stepsOfEachKind(t)
	rest, _ := impl.Run(kinds, make([]int, 20))
	small := spotState()
	spots()[1].in(&small.Hub)
	for i, s := range []impl.State{handState(), kinds, rest, waitsAgain(), small} {
		d, n := cloneState(s), 0
		c.add(s, checkQuiet(t, s))
		eachChange(reflect.ValueOf(&d).Elem(), func() {
			// Of a great state a few changes, so that it does not take long.
			if n++; i > 0 || n%4 == 0 {
				c.add(d, checkQuiet(t, d))
			}
		})
	}
	c.atLeast(t, quietTally{quiet: 150, right: 600, behind: 5, loose: 400, stuck: 600})
}

// TestQuietOfWrongStates has states that are not right, each for one reason.
func TestQuietOfWrongStates(t *testing.T) {
	var c quietTally
	for _, x := range wrongStates() {
		c.add(x.s, checkQuiet(t, x.s))
	}
	for i, x := range append(notCalls(), spoiltCalls(asks(impl.OpAwait, 2))...) {
		s := handState()
		s.Clients[i%6].Prog = append(s.Clients[i%6].Prog, x)
		c.add(s, checkQuiet(t, s))
	}
	if c != (quietTally{}) {
		t.Errorf("%+v", c)
	}
}

// TestEachWaitOfOneWhoStands has each client of a great hub Waiting, and not, at each call that may block.
func TestEachWaitOfOneWhoStands(t *testing.T) {
	var c quietTally
	for who := range 6 {
		for n := -1; n <= 8; n++ {
			for _, x := range []impl.Call{asks(impl.OpAwait, n), asks(impl.OpStand, n), asks(impl.OpLatch, n), asks(impl.OpWatch, n), takes(impl.OpRecv, n)} {
				for _, waiting := range []bool{false, true} {
					s := handState()
					s.Clients[who] = impl.Client{Prog: []impl.Call{byToken(x, []int{-1, 1, 3, 5}[(n+1)%4])}, Waiting: waiting}
					c.add(s, checkQuiet(t, s))
				}
			}
		}
	}
	c.atLeast(t, quietTally{right: 600, behind: 0, loose: 600, stuck: 600})
}

// stateChange makes a state by chance another one that may be right: somebody goes where it does not belong, or somebody's flag or number is another one.
func stateChange(r *rand.Rand, s *impl.State) {
	h, who := &s.Hub, r.IntN(len(s.Clients))
	other := r.IntN(len(s.Clients))
	line, grants := listsOfSome(r, h)
	c := &s.Clients[who]
	switch r.IntN(11) {
	case 0, 1:
		c.Waiting = !c.Waiting
	case 2:
		c.At = r.IntN(len(c.Prog) + 1)
	case 3:
		if len(c.Prog) > 0 {
			c.At = min(c.At, len(c.Prog)-1)
			waits := append(eachWait(*h, who), asks(impl.OpStand, 7), takes(impl.OpRecv, 9))
			c.Prog[c.At], c.Waiting = waits[r.IntN(len(waits))], true
		}
	case 4:
		*line = append(*line, who)
	case 5:
		*grants = append(*grants, who)
	case 6:
		*line, *grants = nil, *line
	case 7:
		*line = nil
	case 8:
		h.Users[who].Subs, h.Users[other].Subs = h.Users[other].Subs, h.Users[who].Subs
	case 9:
		s.Clients[who], s.Clients[other] = s.Clients[other], s.Clients[who]
	case 10:
		cell := r.IntN(len(h.Cells))
		h.Users[who].Seen[cell] += r.IntN(3) - 1
		h.Cells[cell].Version += r.IntN(2)
	}
}

// listsOfSome are the Line and the Grants of a thing, but those of a Note, which has no numbers for Grants.
func listsOfSome(r *rand.Rand, h *impl.Hub) (*[]int, *[]int) {
	switch r.IntN(5) {
	case 0:
		return &h.Notes[r.IntN(len(h.Notes))].Line, &[]int{}
	case 1:
		e := &h.Events[r.IntN(len(h.Events))]
		return &e.Line, &e.Grants
	case 2:
		l := &h.Latches[r.IntN(len(h.Latches))]
		return &l.Line, &l.Grants
	case 3:
		x := &h.Topics[r.IntN(len(h.Topics))].Ring
		return &x.Line, &x.Grants
	}
	c := &h.Cells[r.IntN(len(h.Cells))]
	return &c.Line, &c.Grants
}

// TestSomeStatesByTheSecondWay has states that runs come to, and then changes them more and more.
func TestSomeStatesByTheSecondWay(t *testing.T) {
	var c quietTally
	for seed := range uint64(260) {
		r := rand.New(rand.NewPCG(seed, 16))
		s, _ := impl.Run(someStart(t, r), somePicks(r, []int{5, 20, 60, 400}[r.IntN(4)]))
		for range 14 {
			c.add(s, checkQuiet(t, s))
			d := cloneState(s)
			stateChange(r, &d)
			// From a wrong one there is no way back.
			if c.add(d, checkQuiet(t, d)); stateIsRight(d) {
				s = d
			}
		}
	}
	c.atLeast(t, quietTally{quiet: 400, right: 4000, behind: 100, loose: 2500, stuck: 3000})
}

// TestQuietOfManyKept has rings of each kind, and such as keep each number of messages.
func TestQuietOfManyKept(t *testing.T) {
	rings := rightRings()
	for n := range 17 {
		rings = append(rings, ringOf(16, 20, reads(3, 0, 20), reads(5, 2, 20-n)))
	}
	kept := map[int]int{}
	for i := range rings {
		s := impl.State{Hub: impl.Hub{Topics: named(twelve(), someRings(rings, i, 7, i%13))}}
		for _, n := range checkQuiet(t, s).kept {
			kept[n]++
		}
	}
	for n := range 17 {
		if kept[n] == 0 {
			t.Error("none keeps", n)
		}
	}
}

// TestQuietAnswersTheSame asks again and again, with one thread and with several, and from many callers at one time.
func TestQuietAnswersTheSame(t *testing.T) {
	r := rand.New(rand.NewPCG(5, 16))
	states := []impl.State{handState(), legState(), waitsAgain(), threeClients(), {}}
	for range 20 {
		s, _ := impl.Run(someStart(t, r), somePicks(r, 40))
		stateChange(r, &s)
		states = append(states, s)
	}
	var want []string
	for _, s := range states {
		want = append(want, fmt.Sprint(quietOf(s)))
	}
	ask := func() {
		for i, s := range states {
			if got := fmt.Sprint(quietOf(s)); got != want[i] {
				t.Error("another one", i, got, want[i])
			}
		}
	}
	threads := runtime.GOMAXPROCS(0)
	defer runtime.GOMAXPROCS(threads)
	for _, n := range []int{1, threads} {
		runtime.GOMAXPROCS(n)
		ask()
		ask()
		var callers sync.WaitGroup
		for range 8 {
			callers.Go(ask)
		}
		callers.Wait()
	}
}

// TestQuietOfOddNumbers has numbers at the edges of what an int can be, wherever one stands in what is small enough to be right.
func TestQuietOfOddNumbers(t *testing.T) {
	numbers := []int{math.MinInt, -1 << 32, -2, -1, 0, 1, 2, 1 << 32, math.MaxInt}
	for _, a := range numbers {
		for _, b := range numbers {
			for _, c := range []impl.Call{asks(impl.OpAwait, a), asks(impl.OpStand, a), asks(impl.OpLatch, a), asks(impl.OpWatch, a), takes(impl.OpRecv, a)} {
				s := watchedState(openCell(num(1), 2, []int{0, 1}, nil), b, 2)
				s.Hub.Topics = topics(topic("a", waitedFor(keeps(2, 2, nil, 2, fresh(0, 2), fresh(1, 2)), []int{0}, []int{1})))
				s.Hub.Users[0].Subs = hits([2]int{0, b}, [2]int{0, a})
				s.Clients[0].Prog[0] = c
				checkQuiet(t, s)
				s.Clients[0].At = b
				checkQuiet(t, s)
				s.Clients[0].At, s.Hub.Cells[0].Line = 0, []int{b, a}
				checkQuiet(t, s)
			}
		}
	}
}
