package tests

import (
	"math/rand/v2"
	"slices"
	"testing"

	"loop.example/g00098/impl"
)

// pull reads one by one, and takes back that the last reading lets the Sub wait.
func (b *ringBook) pull(id int, n int) ([]impl.Told, int) {
	s := b.sub(id)
	switch {
	case n < 0, n > 50:
		return nil, impl.Bad
	case s == nil:
		return nil, impl.None
	case slices.Contains(b.waiting, id), slices.Contains(b.told, id):
		return nil, impl.There
	}
	var list []impl.Told
	for len(list) < n {
		x, code := b.read(s)
		if code != impl.Done {
			b.waiting = without(b.waiting, id)
			return list, code
		}
		list = append(list, x)
	}
	return list, impl.Done
}

func (b *ringBook) skip(id int, number int) int {
	s := b.sub(id)
	switch {
	case s == nil:
		return impl.None
	case slices.Contains(b.waiting, id), slices.Contains(b.told, id):
		return impl.There
	case number < s.cursor(), number > b.end():
		return impl.Over
	}
	for s.cursor() < number {
		if s.cursor() < b.end()-b.room {
			s.add("l", 1)
		} else {
			s.add("p", 1)
		}
	}
	return impl.Done
}

// checkReaders looks at what each Sub is told by peeking, and at how far it is behind, as the book has it.
func (s ringRow) checkReaders(t *testing.T) {
	t.Helper()
	var fates [3]int
	for _, sub := range s.r.Subs {
		fates[0], fates[1], fates[2] = fates[0]+sub.Got, fates[1]+sub.Lost, fates[2]+sub.Passed
		want, wantCode := s.b.clone().receive(sub.Id)
		if x, code := impl.Peek(s.r, sub.Id); x != want || code != wantCode {
			t.Fatal("peek", s.r, sub.Id, x, code)
		}
		d, next, code := impl.Receive(s.r, sub.Id)
		if x, same := impl.Peek(s.r, sub.Id); x != next || same != code || !sameRing(s.r, s.b.ring()) {
			t.Fatal("peeked is not told next", s.r, d, x, next)
		}
		gone := 0
		for number := sub.Cursor; number < s.r.Sent-s.r.Cap; number++ {
			gone++
		}
		if behind, lost, ok := impl.Lag(s.r, sub.Id); behind != s.r.Sent-sub.Cursor || lost != gone || !ok {
			t.Fatal("lag", s.r, sub.Id, behind, lost, ok)
		}
	}
	if got, gone, passed := impl.Balance(s.r); [3]int{got, gone, passed} != fates {
		t.Fatal("balance", s.r, got, gone, passed)
	}
}

// TestEveryRowOfAReader does all rows of calls of rings and readers by a few Subs up to a few messages, going on from each state just once until there is no other one.
func TestEveryRowOfAReader(t *testing.T) {
	numbers := allOf(bare(2))
	for i, x := range []struct {
		room, sent, subs int
		f                []impl.Term
		least            int
	}{
		{1, 4, 1, numbers, 900}, {2, 4, 1, nil, 900}, {3, 4, 1, numbers, 700}, {1, 2, 2, numbers, 1900}, {1, 2, 2, nil, 2400},
	} {
		calls := []ringCall{{kind: callSend, m: num(7)}, {kind: callSend, m: text("a")}, {kind: callClose}, {kind: callSubscribe, f: x.f}, {kind: callSubscribe, f: x.f, back: true}}
		for id := range x.subs + 1 {
			for _, kind := range []int{callReceive, callProceed, callUnwait, callUnsubscribe} {
				calls = append(calls, ringCall{kind: kind, id: id})
			}
			for _, n := range []int{-1, 0, 1, 2, 3, 50, 51} {
				calls = append(calls, ringCall{kind: callPull, id: id, n: n})
			}
			for n := -1; n <= x.sent+1; n++ {
				calls = append(calls, ringCall{kind: callSkip, id: id, n: n})
			}
		}
		seen := map[string]bool{}
		states := []ringRow{newRingRow(x.room, 0, 0)}
		for len(states) > 0 {
			s := states[0]
			states = states[1:]
			s.checkReaders(t)
			s.checkEnd(t)
			for _, call := range calls {
				d, _ := s.do(t, call)
				if d.r.Sent > x.sent || d.r.Next > x.subs {
					continue
				}
				if key := d.key(); !seen[key] {
					seen[key] = true
					states = append(states, d)
				}
			}
		}
		if len(seen) < x.least {
			t.Error("these rows come to too little", i, len(seen))
		}
	}
}

// someReaderCall is one of rings, or a pulling, or a skipping to somewhere about the way that is left.
func someReaderCall(r *rand.Rand, s ringRow, kinds string) ringCall {
	x := someRingCall(r, s, kinds)
	switch x.kind {
	case callPull:
		x.n = []int{-1, 0, 1, 1, 2, 2, 3, 4, 7, 16, 17, 18, 49, 50, 50, 50, 51}[r.IntN(17)]
	case callSkip:
		cursor := s.r.Sent
		if at := subPlace(s.r, x.id); at >= 0 {
			cursor = s.r.Subs[at].Cursor
		}
		x.n = cursor - 1 + r.IntN(s.r.Sent-cursor+3)
		if r.IntN(4) == 0 {
			x.n = s.r.Sent - s.r.Cap + r.IntN(3) - 1
		}
	}
	return x
}

// readerTally counts what the rows come to, so that it is seen when they come to too little.
type readerTally struct{ part, whole, some, over, none, lost, skipped, gone, both, beyond, there int }

func (c *readerTally) add(s ringRow, x ringCall, a ringAnswer) {
	count := func(n *int, so bool) {
		if so {
			*n++
		}
	}
	pull, skip := x.kind == callPull, x.kind == callSkip
	count(&c.part, pull && a.code == impl.Done && len(a.tells) > 1)
	count(&c.whole, pull && a.code == impl.Waits && len(a.tells) > 1)
	count(&c.over, pull && a.code == impl.Over && len(a.tells) > 0)
	count(&c.none, pull && a.code == impl.Waits && sameRing(a.r, s.r))
	count(&c.lost, pull && len(a.tells) > 1 && a.tells[0].Kind == impl.RLost)
	count(&c.some, pull && a.code == impl.Waits && len(a.tells) == 0 && subOf(a.r, x.id).Passed > subOf(s.r, x.id).Passed)
	count(&c.beyond, skip && a.code == impl.Over)
	count(&c.there, (pull || skip) && a.code == impl.There)
	if skip && a.code == impl.Done {
		before, behind := subOf(s.r, x.id), subOf(a.r, x.id)
		count(&c.skipped, behind.Passed > before.Passed && behind.Lost == before.Lost)
		count(&c.gone, behind.Passed == before.Passed && behind.Lost > before.Lost)
		count(&c.both, behind.Passed > before.Passed && behind.Lost > before.Lost)
	}
}

// TestLongRowsOfAReader goes on with many Subs, by chance, with more of one kind of call or of another; some end at the last message that there can be.
func TestLongRowsOfAReader(t *testing.T) {
	kinds := []string{"ssssrpllk", "ssssssssslka", "sslllkkkrrppwwaaq", "ssssssssrrpplkwaaaq", "sssssssssssskkkkllaa"}
	rooms := []int{1, 2, 3, 7, 15, 16}
	var c readerTally
	for seed := range uint64(120) {
		r := rand.New(rand.NewPCG(seed, 31))
		s := newRingRow(rooms[seed/5%6], []int{0, 5, most - 60}[seed%3], 0)
		for range 3 {
			s, _ = s.do(t, someReaderCall(r, s, "a"))
		}
		for i := range 200 {
			row := kinds[seed%5]
			if i > 100 && seed%2 == 0 {
				row += "c"
			}
			x := someReaderCall(r, s, row)
			d, a := s.do(t, x)
			c.add(s, x, a)
			s = d
			s.checkReaders(t)
		}
		s.checkEnd(t)
	}
	for _, n := range []int{c.part, c.whole, c.some, c.over, c.none, c.lost, c.skipped, c.gone, c.both, c.beyond, c.there} {
		if n < 50 {
			t.Errorf("these rows come to too little: %+v", c)
			break
		}
	}
}
