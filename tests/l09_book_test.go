package tests

import (
	"fmt"
	"math/rand/v2"
	"slices"
	"strings"
	"testing"

	"loop.example/g00098/impl"
)

// bookSub has of each number from start on what became of it: g got, l lost, p passed by. All that a Sub counts comes from there.
type bookSub struct {
	id, start int
	filter    []impl.Term
	fates     string
	heard     []int
}

func (s *bookSub) cursor() int { return s.start + len(s.fates) }

func (s *bookSub) add(fate string, n int) { s.fates += strings.Repeat(fate, n) }

// ringBook keeps all messages that were sent, those from the number base on.
type ringBook struct {
	room, base, next int
	sent             []impl.Msg
	subs             []bookSub
	waiting, told    []int
	closed           bool
}

func (b *ringBook) end() int { return b.base + len(b.sent) }

// wanted tells whether some Sub has not read that number yet.
func (b *ringBook) wanted(number int) bool {
	return slices.ContainsFunc(b.subs, func(s bookSub) bool { return s.cursor() <= number })
}

// ring is the ring that the book tells of: it keeps the last ones, at most room, that some Sub has not read.
func (b *ringBook) ring() impl.Ring {
	r := impl.Ring{Cap: b.room, Sent: b.end(), Next: b.next, Line: b.waiting, Grants: b.told, Closed: b.closed}
	for i, m := range b.sent {
		if i >= len(b.sent)-b.room && b.wanted(b.base+i) {
			r.Items = append(r.Items, m)
		}
	}
	for _, s := range b.subs {
		count := func(fate string) int { return strings.Count(s.fates, fate) }
		r.Subs = append(r.Subs, impl.Sub{Id: s.id, Start: s.start, Cursor: s.cursor(), Got: count("g"), Lost: count("l"), Passed: count("p"), Filter: s.filter})
	}
	return r
}

func (b *ringBook) sub(id int) *bookSub {
	for i := range b.subs {
		if b.subs[i].id == id {
			return &b.subs[i]
		}
	}
	return nil
}

func (b ringBook) clone() *ringBook {
	b.sent, b.subs, b.waiting, b.told = slices.Clone(b.sent), slices.Clone(b.subs), slices.Clone(b.waiting), slices.Clone(b.told)
	for i := range b.subs {
		b.subs[i].heard = slices.Clone(b.subs[i].heard)
	}
	return &b
}

func (b *ringBook) send(m impl.Msg) ([]int, int) {
	switch {
	case b.closed:
		return nil, impl.Over
	case !msgIsRight(m):
		return nil, impl.Bad
	case b.end() == most:
		return nil, impl.Full
	}
	b.sent = append(b.sent, m)
	var wakes []int
	for _, id := range b.waiting {
		if s := b.sub(id); lets(s.filter, m) {
			wakes = append(wakes, id)
		} else {
			s.add("p", 1)
		}
	}
	b.waiting = slices.DeleteFunc(b.waiting, func(id int) bool { return slices.Contains(wakes, id) })
	b.told = append(b.told, wakes...)
	return wakes, impl.Done
}

func (b *ringBook) subscribe(f []impl.Term, back bool) (int, int) {
	switch {
	case !filterIsRight(f):
		return -1, impl.Bad
	case b.closed:
		return -1, impl.Over
	case len(b.subs) == 12, b.next == most:
		return -1, impl.Full
	}
	start := b.end()
	for back && start > b.base && start > b.end()-b.room && b.wanted(start-1) {
		start--
	}
	b.subs = append(b.subs, bookSub{id: b.next, start: start, filter: f})
	b.next++
	return b.next - 1, impl.Done
}

func (b *ringBook) quit(id int) int {
	if !slices.Contains(b.waiting, id) && !slices.Contains(b.told, id) {
		return impl.None
	}
	b.waiting, b.told = without(b.waiting, id), without(b.told, id)
	return impl.Done
}

func (b *ringBook) unsubscribe(id int) int {
	if b.sub(id) == nil {
		return impl.None
	}
	b.subs = slices.DeleteFunc(b.subs, func(s bookSub) bool { return s.id == id })
	b.quit(id)
	return impl.Done
}

func (b *ringBook) read(s *bookSub) (impl.Told, int) {
	gone := 0
	for ; s.cursor() < b.end()-b.room; gone++ {
		s.add("l", 1)
	}
	if gone > 0 {
		return impl.Told{Kind: impl.RLost, N: gone}, impl.Done
	}
	for s.cursor() < b.end() {
		number := s.cursor()
		if m := b.sent[number-b.base]; lets(s.filter, m) {
			s.add("g", 1)
			return impl.Told{Kind: impl.RGot, Msg: m, Index: number}, impl.Done
		}
		s.add("p", 1)
	}
	if b.closed {
		return impl.Told{}, impl.Over
	}
	b.waiting = append(b.waiting, s.id)
	return impl.Told{}, impl.Waits
}

func (b *ringBook) receive(id int) (impl.Told, int) {
	s := b.sub(id)
	switch {
	case s == nil:
		return impl.Told{}, impl.None
	case slices.Contains(b.waiting, id), slices.Contains(b.told, id):
		return impl.Told{}, impl.There
	}
	return b.read(s)
}

func (b *ringBook) proceed(id int) (impl.Told, int) {
	switch {
	case slices.Contains(b.waiting, id):
		return impl.Told{}, impl.Waits
	case !slices.Contains(b.told, id):
		return impl.Told{}, impl.None
	}
	b.told = without(b.told, id)
	return b.read(b.sub(id))
}

func (b *ringBook) close() ([]int, int) {
	if b.closed {
		return nil, impl.Over
	}
	list := b.waiting
	b.waiting, b.told, b.closed = nil, append(b.told, list...), true
	return list, impl.Done
}

const (
	callSend = iota
	callReceive
	callProceed
	callUnwait
	callSubscribe
	callUnsubscribe
	callClose
	callPull
	callSkip
)

// ringCall is one call of a row: its kind, and what that asks for.
type ringCall struct {
	kind, id, n int
	m           impl.Msg
	f           []impl.Term
	back        bool
}

// ringRow is what a row of calls has come to.
type ringRow struct {
	r impl.Ring
	b *ringBook
}

// newRingRow has sent that many already, to nobody, and had Subs before.
func newRingRow(room int, sent int, next int) ringRow {
	return ringRow{r: impl.Ring{Cap: room, Sent: sent, Next: next}, b: &ringBook{room: room, base: sent, next: next}}
}

func (s ringRow) ask(x ringCall) ringAnswer {
	var a ringAnswer
	switch x.kind {
	case callSend:
		a.r, a.list, a.code = impl.Send(s.r, x.m)
	case callReceive:
		a.r, a.x, a.code = impl.Receive(s.r, x.id)
	case callProceed:
		a.r, a.x, a.code = impl.Proceed(s.r, x.id)
	case callUnwait:
		a.r, a.code = impl.Unwait(s.r, x.id)
	case callSubscribe:
		a.r, a.id, a.code = impl.Subscribe(s.r, x.f, x.back)
	case callUnsubscribe:
		a.r, a.code = impl.Unsubscribe(s.r, x.id)
	case callClose:
		a.r, a.list, a.code = impl.CloseRing(s.r)
	case callPull:
		a.r, a.tells, a.code = impl.Pull(s.r, x.id, x.n)
	case callSkip:
		a.r, a.code = impl.SkipTo(s.r, x.id, x.n)
	}
	return a
}

func (b *ringBook) ask(x ringCall) ringAnswer {
	var a ringAnswer
	switch x.kind {
	case callSend:
		a.list, a.code = b.send(x.m)
	case callReceive:
		a.x, a.code = b.receive(x.id)
	case callProceed:
		a.x, a.code = b.proceed(x.id)
	case callUnwait:
		a.code = b.quit(x.id)
	case callSubscribe:
		a.id, a.code = b.subscribe(x.f, x.back)
	case callUnsubscribe:
		a.code = b.unsubscribe(x.id)
	case callClose:
		a.list, a.code = b.close()
	case callPull:
		a.tells, a.code = b.pull(x.id, x.n)
	case callSkip:
		a.code = b.skip(x.id, x.n)
	}
	a.r = b.ring()
	return a
}

// do does one call of the program and of the book, and holds their answers against each other.
func (s ringRow) do(t *testing.T, x ringCall) (ringRow, ringAnswer) {
	t.Helper()
	d := ringRow{b: s.b.clone()}
	a, want := s.ask(x), d.b.ask(x)
	if !sameAnswer(a, want) || !impl.RingOk(a.r) {
		t.Fatalf("%+v of %+v\n= %+v\nthe book says %+v", x, s.r, a, want)
	}
	d.r = a.r
	s.checkSending(t, x, a)
	s.checkTelling(t, x, a, d)
	d.checkPromise(t)
	return d, a
}

// checkSending: an open ring takes every right message, whatever its Subs do.
func (s ringRow) checkSending(t *testing.T, x ringCall, a ringAnswer) {
	t.Helper()
	if x.kind != callSend || s.r.Closed || !impl.MsgOk(x.m) {
		return
	}
	if full := s.r.Sent == impl.MaxSent; !full && (a.code != impl.Done || a.r.Sent != s.r.Sent+1) || full && a.code != impl.Full {
		t.Fatal("not taken", s.r, x, a)
	}
	for _, id := range a.list {
		if sub := a.r.Subs[subPlace(a.r, id)]; sub.Cursor != s.r.Sent || !impl.Passes(sub.Filter, x.m) || !slices.Contains(s.r.Line, id) {
			t.Fatal("told", s.r, x, a)
		}
	}
}

// checkTelling looks at all that the Sub is told by one call; d is what the call has led to.
func (s ringRow) checkTelling(t *testing.T, x ringCall, a ringAnswer, d ringRow) {
	t.Helper()
	tells := slices.Clone(a.tells)
	if a.x.Kind != 0 {
		if a.code != impl.Done {
			t.Fatal("told with another code", s.r, x, a)
		}
		tells = append(tells, a.x)
	}
	for i, told := range tells {
		cursor := s.r.Subs[subPlace(s.r, x.id)].Cursor
		if i > 0 {
			cursor += tells[0].N
		}
		s.checkTold(t, x, told, cursor, d.b.sub(x.id))
	}
}

// checkTold: the numbers that a Sub is told rise, and what is told as lost has room or more behind it.
func (s ringRow) checkTold(t *testing.T, x ringCall, told impl.Told, cursor int, sub *bookSub) {
	t.Helper()
	if told.Kind == impl.RLost {
		last := cursor + told.N - 1
		if told.N < 1 || s.r.Sent-1-last < s.r.Cap || told.Msg != (impl.Msg{}) || told.Index != 0 {
			t.Fatal("lost", s.r, x, told)
		}
		return
	}
	if told.Index < cursor || told.Index >= s.r.Sent || told.Msg != s.b.sent[told.Index-s.b.base] || !impl.Passes(sub.filter, told.Msg) || told.N != 0 {
		t.Fatal("got", s.r, x, told)
	}
	if len(sub.heard) > 0 && sub.heard[len(sub.heard)-1] >= told.Index || told.Index < sub.start {
		t.Fatal("does not rise", s.r, x, told, sub.heard)
	}
	sub.heard = append(sub.heard, told.Index)
}

// checkPromise: got, passed by and lost are together from Start to Cursor; the ring keeps what its slowest Sub has not read, at most Cap, and nothing when it has no Sub; who waits has read all, and nobody waits at a closed ring.
func (s ringRow) checkPromise(t *testing.T) {
	t.Helper()
	slowest := s.r.Sent
	for i, sub := range s.r.Subs {
		if sub.Got+sub.Lost+sub.Passed != sub.Cursor-sub.Start || sub.Got != len(s.b.subs[i].heard) {
			t.Fatal("counts", s.r, s.b.subs[i])
		}
		slowest = min(slowest, sub.Cursor)
	}
	if len(s.r.Items) != min(s.r.Sent-slowest, s.r.Cap) || len(s.r.Subs) == 0 && len(s.r.Items) != 0 {
		t.Fatal("kept", s.r)
	}
	for _, id := range s.r.Line {
		if s.r.Closed || s.r.Subs[subPlace(s.r, id)].Cursor != s.r.Sent {
			t.Fatal("waits", s.r, id)
		}
	}
	for _, id := range s.r.Grants {
		s.checkGrant(t, id)
	}
}

// checkGrant: who was told does not have to wait, since no row leaves a Grant for which there is nothing.
func (s ringRow) checkGrant(t *testing.T, id int) {
	t.Helper()
	if _, x, code := impl.Proceed(s.r, id); code != impl.Done && (code != impl.Over || !s.r.Closed) || (code == impl.Done) != (x.Kind != 0) {
		t.Fatal("told, and has to wait", s.r, id, x, code)
	}
}

// checkEnd closes the ring and lets each Sub read to its end: it is told all that is kept and that it wants, then it is over, and nobody waits.
func (s ringRow) checkEnd(t *testing.T) {
	t.Helper()
	if !s.r.Closed {
		s, _ = s.do(t, ringCall{kind: callClose})
	}
	for _, id := range slices.Clone(s.r.Grants) {
		s, _ = s.do(t, ringCall{kind: callProceed, id: id})
	}
	for _, sub := range s.r.Subs {
		for range s.r.Cap + 2 {
			d, a := s.do(t, ringCall{kind: callReceive, id: sub.Id})
			s = d
			if a.code == impl.Over {
				break
			}
		}
	}
	for _, sub := range s.r.Subs {
		if d, a := s.do(t, ringCall{kind: callReceive, id: sub.Id}); a.code != impl.Over || sub.Cursor > s.r.Sent || !sameRing(d.r, s.r) {
			t.Fatal("not over", s.r, a)
		}
	}
	if len(s.r.Items)+len(s.r.Line)+len(s.r.Grants) != 0 {
		t.Fatal("at its end", s.r)
	}
}

// key tells states apart, by what became of each message, too.
func (s ringRow) key() string {
	var fates []string
	for _, sub := range s.b.subs {
		fates = append(fates, sub.fates)
	}
	return fmt.Sprint(s.r, fates)
}

// TestEveryRowOfARing does all rows of calls by a few Subs up to a few messages, going on from each state just once until there is no other one.
func TestEveryRowOfARing(t *testing.T) {
	numbers, nothing := allOf(bare(2)), allOf(bare(1), bare(8))
	for i, x := range []struct {
		room, sent, subs int
		filters          [][]impl.Term
		least            int
	}{
		{1, 4, 1, [][]impl.Term{nil, numbers}, 1300}, {2, 5, 1, [][]impl.Term{numbers}, 2400}, {3, 5, 1, [][]impl.Term{nil}, 800}, {1, 3, 2, [][]impl.Term{numbers}, 8000}, {2, 3, 2, [][]impl.Term{numbers}, 4000}, {1, 2, 2, [][]impl.Term{nothing, nil}, 2000}, {1, 2, 3, [][]impl.Term{nil}, 10000},
	} {
		calls := []ringCall{{kind: callSend, m: num(7)}, {kind: callSend, m: text("a")}, {kind: callSend}, {kind: callClose}}
		for _, f := range x.filters {
			calls = append(calls, ringCall{kind: callSubscribe, f: f}, ringCall{kind: callSubscribe, f: f, back: true})
		}
		for id := range x.subs + 1 {
			for _, kind := range []int{callReceive, callProceed, callUnwait, callUnsubscribe} {
				calls = append(calls, ringCall{kind: kind, id: id})
			}
		}
		seen := map[string]bool{}
		states := []ringRow{newRingRow(x.room, 0, 0)}
		for len(states) > 0 {
			s := states[0]
			states = states[1:]
			s.checkEnd(t)
			for _, call := range calls {
				d, _ := s.do(t, call)
				if d.r.Sent > x.sent || d.r.Next > x.subs {
					continue
				}
				if key := d.key(); !seen[key] {
					seen[key] = true
					states = append(states, d)
				}
			}
		}
		if len(seen) < x.least {
			t.Error("these rows come to too little", i, len(seen))
		}
	}
}

// someRingCall is of a kind that kinds names by its letter; mostly of a Sub that there is.
func someRingCall(r *rand.Rand, s ringRow, kinds string) ringCall {
	x := ringCall{kind: strings.IndexByte("srpwaqclk", kinds[r.IntN(len(kinds))]), id: r.IntN(20) - 1, m: sentAs(r.IntN(400)), back: r.IntN(2) == 0}
	if n := len(s.r.Subs); n > 0 && r.IntN(20) > 0 {
		x.id = s.r.Subs[r.IntN(n)].Id
	}
	filters := append(subFilters(), nil, nil, allOf(bare(0)))
	x.f = filters[r.IntN(len(filters))]
	if r.IntN(30) == 0 {
		x.m = impl.Msg{}
	}
	return x
}

// ringTally counts what the rows come to, so that it is seen when they come to too little.
type ringTally struct{ lost, far, got, waits, woken, passed, over, many, full, nothing int }

func (c *ringTally) add(s ringRow, x ringCall, a ringAnswer) {
	count := func(n *int, so bool) {
		if so {
			*n++
		}
	}
	count(&c.lost, a.x.Kind == impl.RLost)
	count(&c.far, x.kind == callProceed && a.x.Kind == impl.RLost)
	count(&c.got, a.x.Kind == impl.RGot)
	count(&c.waits, a.code == impl.Waits && x.kind == callReceive)
	count(&c.woken, len(a.list) > 0)
	count(&c.passed, x.kind == callSend && len(s.r.Line) > len(a.list) && a.code == impl.Done)
	count(&c.over, x.kind == callReceive && a.code == impl.Over)
	count(&c.many, len(s.r.Subs) == impl.MaxSubs)
	count(&c.full, a.code == impl.Full)
	count(&c.nothing, x.kind == callSend && len(s.r.Subs) > 0 && len(a.r.Items) == 0)
}

// TestLongRowsOfARing goes on with many Subs, by chance, with more of one kind of call or of another; some end at the last message or at the last Id that there can be.
func TestLongRowsOfARing(t *testing.T) {
	kinds := []string{"sssrrrppwaq", "ssssssssrpa", "srrrrrpppaa", "ssrrppaaaaaq", "sssssrrrrrppppppwwaaqqq", "ssssssrrrrrrppppppaaaaaa"}
	rooms := []int{1, 2, 3, 7, 15, 16}
	var c ringTally
	for seed := range uint64(216) {
		r := rand.New(rand.NewPCG(seed, 29))
		s := newRingRow(rooms[seed/6%6], []int{0, 5, most - 90}[seed/36%3], []int{0, 77, most - 9}[seed%3])
		for i := range 250 {
			row := kinds[seed%6]
			if i > 180 && seed%4 == 0 {
				row += "c"
			}
			x := someRingCall(r, s, row)
			d, a := s.do(t, x)
			c.add(s, x, a)
			s = d
		}
		s.checkEnd(t)
	}
	for _, n := range []int{c.lost, c.far, c.got, c.waits, c.woken, c.passed, c.over, c.many, c.full, c.nothing} {
		if n < 200 {
			t.Errorf("these rows come to too little: %+v", c)
			break
		}
	}
}
