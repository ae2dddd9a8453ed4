package tests

import (
	"fmt"
	"math/rand/v2"
	"slices"
	"testing"

	"loop.example/g00098/impl"
)

// movedMsg is one message that a merge has read: where it stood, and whether what it gives to took it.
type movedMsg struct {
	leg, number int
	m           impl.Msg
	taken       bool
}

// bookedLeg is what became of a Leg.
type bookedLeg struct {
	topic, id, lost int
	over            bool
}

// mergeRow is what a row of calls has come to: the topics and their books, a merge, and the book of what that has done.
type mergeRow struct {
	topicRow
	m     impl.Merge
	legs  []bookedLeg
	moved []movedMsg
	// base is what Moved was at first, and sent is what others sent into Into.
	base  int
	sent  int
	tally *mergeTally
}

const callForward = callAtRing + 1

// mergeCall is one call of a row: at one topic's ring, or of a Leg.
type mergeCall struct {
	kind, at int
	ring     ringCall
}

// newMergeRow opens a merge of the topics but the last one, into that; Moved and each Lost start at base.
func newMergeRow(t *testing.T, topics topicRow, f []impl.Term, base int) mergeRow {
	t.Helper()
	s := mergeRow{topicRow: topics.clone(), base: base}
	into := len(s.list) - 1
	var from []int
	for i := range into {
		id, code := s.books[i].b.subscribe(f, false)
		if code != impl.Done {
			t.Fatal("refused", i, code)
		}
		from = append(from, i)
		s.legs = append(s.legs, bookedLeg{topic: i, id: id, lost: base})
	}
	list, m, code := impl.OpenMerge(s.list, from, into, f)
	s.list, s.m = list, m
	if code != impl.Done || m.Moved != 0 || slices.ContainsFunc(m.Legs, func(x impl.Leg) bool { return x.Lost != 0 || x.Over }) {
		t.Fatal("not opened", m, code)
	}
	s.m.Moved = base
	for i := range s.m.Legs {
		s.m.Legs[i].Lost = base
	}
	s.checkBooks(t, "open")
	return s
}

func (s mergeRow) clone() mergeRow {
	s.topicRow, s.m = s.topicRow.clone(), cloneMerge(s.m)
	s.legs, s.moved = slices.Clone(s.legs), slices.Clone(s.moved)
	return s
}

// countTaken is how many of what the merge has read were taken.
func (s mergeRow) countTaken() int {
	n := 0
	for _, x := range s.moved {
		if x.taken {
			n++
		}
	}
	return n
}

// merge is the one that the book tells of.
func (s mergeRow) merge() impl.Merge {
	m := impl.Merge{Into: len(s.books) - 1, Moved: min(s.base+s.countTaken(), most)}
	for _, x := range s.legs {
		m.Legs = append(m.Legs, impl.Leg{Topic: x.topic, Id: x.id, Lost: min(x.lost, most), Over: x.over})
	}
	return m
}

// peek is what a Leg would be told, by a copy of its book.
func (s mergeRow) peek(leg int) int {
	if s.legs[leg].over {
		return impl.None
	}
	_, code := s.books[s.legs[leg].topic].b.clone().pull(s.legs[leg].id, 1)
	return code
}

// forward tells how a Leg is moved on in the books.
func (s *mergeRow) forward(leg int) ([]impl.Hit, int) {
	if leg < 0 || leg >= len(s.legs) || s.legs[leg].over {
		return nil, impl.None
	}
	if s.peek(leg) == impl.Waits {
		return nil, impl.Waits
	}
	x := &s.legs[leg]
	from, into := s.books[x.topic].b, s.books[len(s.books)-1].b
	tells, code := from.pull(x.id, 1)
	var told []int
	switch {
	case code == impl.Over:
		x.over = true
		from.unsubscribe(x.id)
		if !slices.ContainsFunc(s.legs, func(x bookedLeg) bool { return !x.over }) {
			told, _ = into.close()
		}
	case tells[0].Kind == impl.RLost:
		x.lost += tells[0].N
	default:
		from.sub(x.id).heard = append(from.sub(x.id).heard, tells[0].Index)
		told, code = into.send(tells[0].Msg)
		s.moved = append(s.moved, movedMsg{leg: leg, number: tells[0].Index, m: tells[0].Msg, taken: code == impl.Done})
	}
	return hitsIn(len(s.books)-1, told), impl.Done
}

// do does one call of the program and in the books, and holds what they answer against each other.
func (s mergeRow) do(t *testing.T, x mergeCall) (mergeRow, mergeAnswer) {
	t.Helper()
	d := s.clone()
	if x.kind == callAtRing {
		row, a := ringRow{r: s.list[x.at].Ring, b: s.books[x.at].b}.do(t, x.ring)
		d.list[x.at].Ring, d.books[x.at].b = row.r, row.b
		if x.at == s.m.Into && x.ring.kind == callSend && a.code == impl.Done {
			d.sent++
		}
		d.checkBooks(t, x)
		return d, mergeAnswer{code: a.code}
	}
	a := forwardOf(s.list, s.m, x.at)
	told, code := d.forward(x.at)
	if !slices.Equal(a.told, told) || a.code != code {
		t.Fatalf("%+v of %+v, %+v\n= %+v\nthe books say %v, %d", x, s.list, s.m, a, told, code)
	}
	d.list, d.m = a.list, a.m
	d.checkBooks(t, x)
	s.checkForward(t, x, a)
	if s.tally != nil {
		s.tally.add(s, x, d, a)
	}
	return d, a
}

// checkBooks: the topics, the merge and who is ready are as the books have it.
func (s mergeRow) checkBooks(t *testing.T, what any) {
	t.Helper()
	if !sameTopics(s.list, s.topics()) || !sameMerge(s.m, s.merge()) || !impl.MergeOk(s.list, s.m) {
		t.Fatalf("%+v: %+v, %+v\nthe books say %+v, %+v", what, s.list, s.m, s.topics(), s.merge())
	}
	var ready []int
	for i := range s.legs {
		if code := s.peek(i); code == impl.Done || code == impl.Over {
			ready = append(ready, i)
		}
	}
	if got := impl.Ready(s.list, s.m); !slices.Equal(got, ready) {
		t.Fatalf("%+v: Ready of %+v, %+v = %v\nthe books say %v", what, s.list, s.m, got, ready)
	}
	s.checkMoved(t)
}

// checkMoved is the promise: each topic's messages are moved in their order, as they were sent; what a Leg has read is moved, counted as lost, or passed by; a Leg that is over has no Sub, and its topic is closed.
func (s mergeRow) checkMoved(t *testing.T) {
	t.Helper()
	count, last := map[int]int{}, map[int]int{}
	for _, x := range s.moved {
		b := s.books[s.legs[x.leg].topic].b
		if n, there := last[x.leg]; there && x.number <= n || x.m != b.sent[x.number-b.base] {
			t.Fatal("not in their order", s.moved)
		}
		last[x.leg] = x.number
		count[x.leg]++
	}
	for i, leg := range s.m.Legs {
		r := s.list[leg.Topic].Ring
		at := subPlace(r, leg.Id)
		if leg.Over {
			if at >= 0 || !r.Closed {
				t.Fatal("over", r, leg)
			}
			continue
		}
		if sub := r.Subs[at]; sub.Got != count[i] || min(s.base+sub.Lost, most) != leg.Lost || sub.Got+sub.Lost+sub.Passed != sub.Cursor-sub.Start {
			t.Fatal("not counted", s.m, sub, s.moved)
		}
	}
	// What was sent there is what the merge has moved, and what others sent.
	if b := s.books[s.m.Into].b; len(b.sent) != s.countTaken()+s.sent {
		t.Fatal("moved", s.m, len(b.sent), s.countTaken(), s.sent)
	}
	s.checkMovedInto(t)
}

// checkMovedInto: what the merge has moved stands in what it gives to, in the order in which it was moved.
func (s mergeRow) checkMovedInto(t *testing.T) {
	t.Helper()
	there := s.books[s.m.Into].b.sent
	for _, x := range s.moved {
		if !x.taken {
			continue
		}
		at := slices.Index(there, x.m)
		if at < 0 {
			t.Fatal("not moved", s.moved, s.books[s.m.Into].b.sent)
		}
		there = there[at+1:]
	}
}

// checkForward: just a Leg that is ready is moved on, the others are as they were; what is given to is closed only when each Leg is over; who is told there hears of what was moved, or of the end.
func (s mergeRow) checkForward(t *testing.T, x mergeCall, a mergeAnswer) {
	t.Helper()
	if ready := slices.Contains(impl.Ready(s.list, s.m), x.at); ready != (a.code == impl.Done) {
		t.Fatal("ready", s.m, x, a)
	}
	if a.code != impl.Done {
		if !sameMergeAnswer(a, mergeAnswer{list: s.list, m: s.m, code: a.code}) {
			t.Fatal("refused, and changed", s.list, s.m, x, a)
		}
		return
	}
	before, into := s.list[s.m.Into].Ring, a.list[s.m.Into].Ring
	for i := range s.list {
		if i != s.m.Into && i != s.m.Legs[x.at].Topic && !sameTopic(a.list[i], s.list[i]) {
			t.Fatal("another topic", s.list, s.m, x, a)
		}
	}
	for i := range s.m.Legs {
		if i != x.at && a.m.Legs[i] != s.m.Legs[i] {
			t.Fatal("another Leg", s.m, x, a)
		}
	}
	all := !slices.ContainsFunc(a.m.Legs, func(x impl.Leg) bool { return !x.Over })
	if into.Closed != (before.Closed || all) {
		t.Fatal("closed", s.m, x, a)
	}
	for _, h := range a.told {
		_, y, code := impl.Proceed(into, h.Id)
		got := code == impl.Done && y.Kind == impl.RGot && y.Index == before.Sent && !all
		if h.Topic != s.m.Into || !slices.Contains(before.Line, h.Id) || !got && !(all && code == impl.Over) {
			t.Fatal("told", s.m, x, a, y, code)
		}
	}
	if all && !before.Closed && len(into.Line) > 0 || into.Sent > before.Sent && len(a.told) == 0 && slices.ContainsFunc(before.Line, func(id int) bool { return !slices.Contains(into.Line, id) }) {
		t.Fatal("not told", s.m, x, a)
	}
}

// drain moves on as long as a Leg is ready, by the pick'th of those that are.
func (s mergeRow) drain(t *testing.T, pick func(n int) int) mergeRow {
	t.Helper()
	for ready := impl.Ready(s.list, s.m); len(ready) > 0; ready = impl.Ready(s.list, s.m) {
		d, a := s.do(t, mergeCall{kind: callForward, at: ready[pick(len(ready))]})
		if a.code != impl.Done {
			t.Fatal("ready, but not moved on", s.m, a)
		}
		s = d
	}
	return s
}

// checkDrained: nothing is left that could be moved; each Leg that is not over has to wait, and its topic is open.
func (s mergeRow) checkDrained(t *testing.T) {
	t.Helper()
	for i, leg := range s.m.Legs {
		r := s.list[leg.Topic].Ring
		if leg.Over {
			continue
		}
		if _, code := impl.Peek(r, leg.Id); code != impl.Waits || r.Closed {
			t.Fatal("left", s.m, i, r)
		}
		if behind, lost, ok := impl.Lag(r, leg.Id); !ok || lost != 0 || behind > r.Cap {
			t.Fatal("left", s.m, i, r)
		}
	}
}

// checkEnd drains the merge, then closes all that it takes from, topic by topic, and drains it each time: just at the last one what it gives to is closed.
func (s mergeRow) checkEnd(t *testing.T, pick func(n int) int) mergeRow {
	t.Helper()
	s = s.drain(t, pick)
	s.checkDrained(t)
	for _, leg := range s.m.Legs {
		if leg.Over {
			continue
		}
		closed := s.list[s.m.Into].Ring.Closed
		s, _ = s.do(t, mergeCall{kind: callAtRing, at: leg.Topic, ring: ringCall{kind: callClose}})
		if s.list[s.m.Into].Ring.Closed != closed {
			t.Fatal("closed by another one", s.m)
		}
		s = s.drain(t, pick)
		s.checkDrained(t)
	}
	for _, leg := range s.m.Legs {
		if r := s.list[leg.Topic].Ring; !leg.Over || subPlace(r, leg.Id) >= 0 {
			t.Fatal("not over", s.m, r)
		}
	}
	if r := s.list[s.m.Into].Ring; !r.Closed || len(r.Line) > 0 {
		t.Fatal("not closed", s.m, r)
	}
	return s
}

func (s mergeRow) key() string { return fmt.Sprint(s.topicRow.key(), s.m, s.moved) }

func first(n int) int { return 0 }

func last(n int) int { return n - 1 }

// topicsFor are topics to which so many were sent already, with these Caps.
func topicsFor(sent int, rooms ...int) topicRow {
	var s topicRow
	for i, room := range rooms {
		s = s.with(string(rune('a'+i)), room, sent)
	}
	return s
}

// TestEveryRowOfAMerge does all rows of calls at a merge of one or two topics, and at a Sub of what it gives to, up to a few messages, going on from each state just once until there is no other one.
func TestEveryRowOfAMerge(t *testing.T) {
	numbers := allOf(bare(2))
	for i, x := range []struct {
		rooms  []int
		f      []impl.Term
		sent   int
		others int
		least  int
	}{
		{[]int{1, 1}, nil, 2, 1, 3400}, {[]int{1, 2}, numbers, 2, 1, 1300}, {[]int{2, 1}, numbers, 3, 0, 1500}, {[]int{1, 1, 1}, numbers, 2, 0, 3700}, {[]int{1, 2, 2}, numbers, 2, 0, 3500},
	} {
		into := len(x.rooms) - 1
		calls := []mergeCall{{kind: callForward, at: -1}, {kind: callForward, at: into}}
		at := func(number int, ring ringCall) {
			calls = append(calls, mergeCall{kind: callAtRing, at: number, ring: ring})
		}
		for leg := range into {
			calls = append(calls, mergeCall{kind: callForward, at: leg})
			at(leg, ringCall{kind: callSend, m: num(7 + leg)})
			at(leg, ringCall{kind: callSend, m: text("a")})
			at(leg, ringCall{kind: callClose})
		}
		for _, kind := range []int{callReceive, callProceed, callSubscribe, callClose} {
			at(into, ringCall{kind: kind})
		}
		at(into, ringCall{kind: callSend, m: num(1)})
		seen := map[string]bool{}
		states := []mergeRow{newMergeRow(t, topicsFor(0, x.rooms...), x.f, 0)}
		for len(states) > 0 {
			s := states[0]
			states = states[1:]
			s.checkEnd(t, first)
			for _, call := range calls {
				d, _ := s.do(t, call)
				from := d.topicRow.sent() - d.list[into].Ring.Sent
				if from > x.sent || d.sent > x.others || d.list[into].Ring.Next > 1 {
					continue
				}
				if key := d.key(); !seen[key] {
					seen[key] = true
					states = append(states, d)
				}
			}
		}
		if len(seen) < x.least {
			t.Error("these rows come to too little", i, len(seen))
		}
	}
}

// mergeTally counts what the rows come to, so that it is seen when they come to too little.
type mergeTally struct{ moved, refused, lost, over, last, told, toldEnd, waits, none, skips, full int }

func (c *mergeTally) add(s mergeRow, x mergeCall, d mergeRow, a mergeAnswer) {
	count := func(n *int, so bool) {
		if so {
			*n++
		}
	}
	count(&c.waits, a.code == impl.Waits)
	count(&c.none, a.code == impl.None)
	if a.code != impl.Done {
		return
	}
	before, behind := s.m.Legs[x.at], d.m.Legs[x.at]
	read, into := len(d.moved) > len(s.moved), d.list[d.m.Into].Ring
	ended := behind.Over && into.Closed && !s.list[d.m.Into].Ring.Closed
	count(&c.moved, read && d.moved[len(d.moved)-1].taken)
	count(&c.refused, read && !d.moved[len(d.moved)-1].taken)
	count(&c.lost, behind.Lost > before.Lost)
	count(&c.over, behind.Over)
	count(&c.last, ended)
	count(&c.told, read && len(a.told) > 0)
	count(&c.toldEnd, ended && len(a.told) > 0)
	if read {
		count(&c.skips, subOf(d.list[behind.Topic].Ring, behind.Id).Passed > subOf(s.list[before.Topic].Ring, before.Id).Passed)
		count(&c.full, s.m.Moved == most)
	}
}

// someMergeCall moves a Leg on about share times of twenty; else something is done at a topic: mostly something is sent, or somebody reads what is given to.
func someMergeCall(r *rand.Rand, s mergeRow, share int) mergeCall {
	into := len(s.list) - 1
	if r.IntN(20) < share {
		return mergeCall{kind: callForward, at: r.IntN(into+2) - 1}
	}
	x := mergeCall{kind: callAtRing, at: r.IntN(into)}
	row := "ssssssssssar"
	if r.IntN(3) == 0 {
		x.at, row = into, "rrrrrrppppaaaasq"
	}
	if r.IntN(60) == 0 && (x.at != into || r.IntN(4) == 0) {
		row = "c"
	}
	x.ring = someRingCall(r, ringRow{r: s.list[x.at].Ring, b: s.books[x.at].b}, row)
	// Who belongs to the merge is left to it.
	if x.at != into && x.ring.kind != callSend && x.ring.kind != callSubscribe && x.ring.kind != callClose && x.ring.id == s.m.Legs[x.at].Id {
		x.ring.id = -1
	}
	return x
}

// TestLongRowsOfAMerge goes on with up to six Legs, by chance; some come to the last message that there can be, in what they take from, in what they give to, or in what they count.
func TestLongRowsOfAMerge(t *testing.T) {
	var c mergeTally
	filters := [][]impl.Term{nil, nil, allOf(bare(2)), allOf(bare(3)), allOf(starts("a")), allOf(bare(1), bare(8))}
	for seed := range uint64(240) {
		r := rand.New(rand.NewPCG(seed, 41))
		var rooms []int
		for range 2 + seed%6 {
			rooms = append(rooms, []int{1, 2, 3, 16}[r.IntN(4)])
		}
		topics := topicsFor([]int{0, 5, most - 30}[seed%3], rooms[:len(rooms)-1]...)
		topics = topics.with("into", rooms[len(rooms)-1], []int{0, most - 8}[seed/3%2])
		s := newMergeRow(t, topics, filters[seed/6%6], []int{0, most - 3, most}[seed/7%3])
		s.tally = &c
		for range 150 {
			s, _ = s.do(t, someMergeCall(r, s, []int{3, 8, 14}[seed/2%3]))
		}
		s.checkEnd(t, []func(n int) int{first, last, r.IntN}[seed%3])
	}
	for _, n := range []int{c.moved, c.refused, c.lost, c.over, c.last, c.told, c.toldEnd, c.waits, c.none, c.skips, c.full} {
		if n < 50 {
			t.Errorf("these rows come to too little: %+v", c)
			break
		}
	}
}
