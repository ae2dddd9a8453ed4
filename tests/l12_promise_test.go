package tests

import (
	"slices"
	"testing"

	"loop.example/g00098/impl"
)

// The tests of this file hold the program's answers against each other, as the promise says it.

// liveMerge is a merge and its topics, moved on by calls of the program alone.
type liveMerge struct {
	list []impl.Topic
	m    impl.Merge
}

// openLive merges topics of these rooms, one Leg each, into one more behind them that keeps 16.
func openLive(t *testing.T, f []impl.Term, rooms ...int) *liveMerge {
	t.Helper()
	s := &liveMerge{}
	var from []int
	for i, room := range append(slices.Clone(rooms), 16) {
		list, at, code := impl.OpenTopic(s.list, string(rune('a'+i)), room)
		if code != impl.Done || at != i {
			t.Fatal("open", i, at, code)
		}
		s.list, from = list, append(from, i)
	}
	list, m, code := impl.OpenMerge(s.list, from[:len(rooms)], len(rooms), f)
	if code != impl.Done || !impl.MergeOk(list, m) || len(impl.Ready(list, m)) != 0 {
		t.Fatal("open", m, code)
	}
	s.list, s.m = list, m
	return s
}

func (s *liveMerge) into() *impl.Ring { return &s.list[s.m.Into].Ring }

func (s *liveMerge) send(t *testing.T, number int, m impl.Msg) {
	t.Helper()
	r, _ := sendTo(t, s.list[number].Ring, m)
	s.list[number].Ring = r
}

func (s *liveMerge) close(t *testing.T, number int) {
	t.Helper()
	r, _, code := impl.CloseRing(s.list[number].Ring)
	if code != impl.Done {
		t.Fatal("close", number, code)
	}
	s.list[number].Ring = r
}

func (s *liveMerge) forward(t *testing.T, leg int) []impl.Hit {
	t.Helper()
	a := forwardOf(s.list, s.m, leg)
	if a.code != impl.Done || !impl.MergeOk(a.list, a.m) {
		t.Fatal("forward", leg, s.m, a.m, a.code)
	}
	s.list, s.m = a.list, a.m
	return a.told
}

// drain moves on as long as a Leg is ready; after each call the Sub 0 of Into pulls, so that nothing is lost there.
func (s *liveMerge) drain(t *testing.T, turn int, hear func(m impl.Msg)) {
	t.Helper()
	for ready := impl.Ready(s.list, s.m); len(ready) > 0; ready = impl.Ready(s.list, s.m) {
		s.forward(t, ready[turn%len(ready)])
		turn += 3
		r, tells, code := impl.Pull(*s.into(), 0, impl.MaxPull)
		if code != impl.Waits && code != impl.Over {
			t.Fatal("pull", code)
		}
		*s.into() = r
		for _, x := range tells {
			if x.Kind != impl.RGot {
				t.Fatal("lost there", x)
			}
			hear(x.Msg)
		}
	}
}

// TestAMergeMovesInOrder sends bursts to each topic and moves on as long as a Leg is ready: of each burst the last ones, as many as the topic keeps, are moved in their order, and the others are counted as lost.
func TestAMergeMovesInOrder(t *testing.T) {
	rooms := []int{1, 3, 2, 16, 5, 4}
	for n := 1; n <= 6; n++ {
		for turn := range 5 {
			s := openLive(t, nil, rooms[:n]...)
			r, _ := subscribeTo(t, *s.into(), nil, false)
			*s.into() = r
			want, lost, got := make([][]int, n), make([]int, n), make([][]int, n)
			sent := 0
			for burst := range 12 {
				for number, room := range rooms[:n] {
					size := (burst*(number+2) + turn) % (room + 4)
					for i := range size {
						s.send(t, number, num(number*10000+sent))
						if i >= size-room {
							want[number] = append(want[number], number*10000+sent)
						} else {
							lost[number]++
						}
						sent++
					}
				}
				s.drain(t, turn, func(m impl.Msg) { got[m.Num/10000] = append(got[m.Num/10000], m.Num) })
			}
			moved := 0
			for number, leg := range s.m.Legs {
				if !slices.Equal(got[number], want[number]) || leg.Lost != lost[number] || leg.Over {
					t.Fatal("moved", n, turn, number, leg, got[number], want[number])
				}
				moved += len(want[number])
			}
			if s.m.Moved != moved || s.into().Sent != moved || s.into().Closed || lost[0] == 0 {
				t.Fatal("how many", n, turn, s.m, moved)
			}
		}
	}
}

// TestAMergeMovesWhatItsFilterLetsPass has the others passed by: they are neither moved nor lost.
func TestAMergeMovesWhatItsFilterLetsPass(t *testing.T) {
	for i, f := range subFilters() {
		s := openLive(t, f, 16, 16)
		r, _ := subscribeTo(t, *s.into(), nil, false)
		*s.into() = r
		var want, got [2][]impl.Msg
		for burst := range 6 {
			for n := range 2 + burst {
				m := sentAs(7*burst + n + i)
				s.send(t, burst%2, m)
				if impl.Passes(f, m) {
					want[burst%2] = append(want[burst%2], m)
				}
			}
			// The other topic has nothing that could be moved.
			s.drain(t, burst, func(m impl.Msg) { got[burst%2] = append(got[burst%2], m) })
		}
		for number := range 2 {
			s.close(t, number)
			s.drain(t, 0, func(m impl.Msg) { got[number] = append(got[number], m) })
			if !slices.Equal(got[number], want[number]) || s.m.Legs[number].Lost != 0 {
				t.Error("moved", i, number, s.m, got, want)
			}
		}
		if s.m.Moved != len(want[0])+len(want[1]) || !s.into().Closed {
			t.Error("moved", i, s.m, want)
		}
	}
}

// eachOrder visits all orders of the numbers below n.
func eachOrder(n int, visit func(order []int)) {
	var numbers []int
	for i := range n {
		numbers = append(numbers, i)
	}
	eachList(numbers, n, func(list []int) {
		if len(list) == n && len(eachOnce(slices.Clone(list))) == n {
			visit(list)
		}
	})
}

// TestAMergeClosesBehindTheLastLeg closes the topics in each order, some with messages left: what is given to is closed by the last Leg that is over, and by nothing else; who waits there is told of it, and of each message.
func TestAMergeClosesBehindTheLastLeg(t *testing.T) {
	for n := 1; n <= 4; n++ {
		eachOrder(n, func(order []int) {
			s := openLive(t, nil, []int{2, 2, 2, 2}[:n]...)
			r, id := subscribeTo(t, *s.into(), nil, false)
			*s.into() = r
			for i, number := range order {
				if number%2 == 1 {
					s.send(t, number, num(number))
				}
				s.close(t, number)
				if ready := impl.Ready(s.list, s.m); !slices.Equal(ready, []int{number}) {
					t.Fatal("ready", order, number, ready)
				}
				if number%2 == 1 {
					s.checkTold(t, number, id, impl.Told{Kind: impl.RGot, Msg: num(number), Index: s.into().Sent}, impl.Done)
				}
				if s.m.Legs[number].Over || s.into().Closed {
					t.Fatal("over ahead of its end", order, number, s.m)
				}
				if i < n-1 {
					if told := s.forward(t, number); len(told) != 0 || s.into().Closed {
						t.Fatal("closed ahead of the end", order, number, s.m, told)
					}
				} else {
					s.checkTold(t, number, id, impl.Told{}, impl.Over)
				}
				if x := s.list[number].Ring; !s.m.Legs[number].Over || len(x.Subs) != 0 || len(x.Items) != 0 {
					t.Fatal("not over", order, number, s.m, x)
				}
			}
			if !s.into().Closed || len(impl.Ready(s.list, s.m)) != 0 {
				t.Fatal("not closed", order, s.m)
			}
		})
	}
}

// checkTold lets a Sub of Into wait, moves a Leg on, and looks at what the Sub is told then.
func (s *liveMerge) checkTold(t *testing.T, leg int, id int, want impl.Told, wantCode int) {
	t.Helper()
	r, _ := receiveAt(t, *s.into(), id, impl.Waits)
	*s.into() = r
	if told := s.forward(t, leg); !slices.Equal(told, hits([2]int{s.m.Into, id})) {
		t.Fatal("told", leg, s.m, told)
	}
	r, x, code := impl.Proceed(*s.into(), id)
	if x != want || code != wantCode {
		t.Fatal("hears", leg, s.m, x, code)
	}
	*s.into() = r
}

// TestAllAreClosedAtFirst closes all topics, then moves the Legs on in each order.
func TestAllAreClosedAtFirst(t *testing.T) {
	for n := 1; n <= 4; n++ {
		eachOrder(n, func(order []int) {
			s := openLive(t, nil, []int{1, 1, 1, 1}[:n]...)
			for number := range n {
				s.close(t, number)
			}
			for i, number := range order {
				if s.into().Closed || len(impl.Ready(s.list, s.m)) != n-i {
					t.Fatal("ahead", order, i, s.m)
				}
				s.forward(t, number)
				if a := forwardOf(s.list, s.m, number); !sameMergeAnswer(a, mergeAnswer{list: s.list, m: s.m, code: impl.None}) {
					t.Fatal("once more", order, i, a)
				}
			}
			if !s.into().Closed || s.m.Moved != 0 {
				t.Fatal("behind", order, s.m)
			}
		})
	}
}

// TestOneMergeBehindAnother gives to a topic of which another merge takes: what is moved goes on, and so does the end.
func TestOneMergeBehindAnother(t *testing.T) {
	list := empties("a", "b", "c")
	list, one, code := impl.OpenMerge(list, []int{0}, 1, nil)
	list, two, codeTwo := impl.OpenMerge(list, []int{1}, 2, nil)
	if code != impl.Done || codeTwo != impl.Done || !impl.MergeOk(list, one) || !impl.MergeOk(list, two) {
		t.Fatal("open", one, two, code, codeTwo)
	}
	first, second := &liveMerge{list: list, m: one}, &liveMerge{m: two}
	first.send(t, 0, num(8))
	for i, x := range []struct {
		moved  int
		closed bool
	}{{1, false}, {1, true}} {
		first.forward(t, 0)
		second.list = first.list
		if ready := impl.Ready(second.list, second.m); !slices.Equal(ready, []int{0}) {
			t.Fatal("ready", i, ready)
		}
		second.forward(t, 0)
		first.list = second.list
		if c := first.list[2].Ring; second.m.Moved != x.moved || c.Sent != x.moved || c.Closed != x.closed {
			t.Fatal("went on", i, second.m, c)
		}
		if i == 0 {
			first.close(t, 0)
		}
	}
	if !first.list[1].Ring.Closed || len(first.list[0].Ring.Subs)+len(first.list[1].Ring.Subs) != 0 {
		t.Error("at the end", first.list)
	}
}

// TestTwoMergesOfOneTopic have a Sub each, so that what the one takes is there for the other.
func TestTwoMergesOfOneTopic(t *testing.T) {
	list := empties("a", "b", "c")
	list, one, _ := impl.OpenMerge(list, []int{0}, 1, nil)
	list, two, _ := impl.OpenMerge(list, []int{0}, 2, nil)
	s := &liveMerge{list: list, m: one}
	s.send(t, 0, num(8))
	s.close(t, 0)
	for i, m := range []impl.Merge{one, two} {
		s.m = m
		for _, moved := range []int{1, 1} {
			s.forward(t, 0)
			if s.m.Moved != moved || s.into().Sent != moved || len(impl.Ready(s.list, s.m)) != 1 && !s.m.Legs[0].Over {
				t.Fatal("moved", i, s.m)
			}
		}
		if !s.into().Closed || len(s.list[0].Ring.Subs) != 1-i {
			t.Fatal("closed", i, s.list)
		}
	}
}

// TestWhoReadsAMergesSubTakesItAway: a Sub that somebody lets wait or takes away is none of a merge any more.
func TestWhoReadsAMergesSubTakesItAway(t *testing.T) {
	s := openLive(t, nil, 2, 2)
	id := s.m.Legs[1].Id
	r, _ := receiveAt(t, s.list[1].Ring, id, impl.Waits)
	told, _ := sendTo(t, r, num(1))
	gone, _ := impl.Unsubscribe(s.list[1].Ring, id)
	for i, r := range []impl.Ring{r, told, gone} {
		list := cloneTopics(s.list)
		list[1].Ring = r
		if impl.MergeOk(list, s.m) || len(impl.Ready(list, s.m)) != 0 {
			t.Error("right", i, list)
		}
		for leg := range 2 {
			if a := forwardOf(list, s.m, leg); !sameMergeAnswer(a, mergeAnswer{list: list, m: s.m, code: impl.Bad}) {
				t.Error("forward", i, leg, a)
			}
		}
	}
	back, _ := impl.Unwait(told, id)
	s.list[1].Ring = back
	if ready := impl.Ready(s.list, s.m); !slices.Equal(ready, []int{1}) {
		t.Error("ready", ready)
	}
}
