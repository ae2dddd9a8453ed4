package tests

import (
	"math/rand/v2"
	"slices"
	"testing"

	"loop.example/g00098/impl"
)

// hubRow is what a row of calls has come to: the hub, and a book of each thing in it, which knows nothing of the program.
type hubRow struct {
	h       impl.Hub
	parents []int
	off     []bool
	timers  []impl.Timer
	notes   []*tellingBook
	events  []eventBook
	latches []*latchBook
	cells   []*watchBook
	topics  topicRow
	subs    [][]impl.Hit
}

const (
	rowDo = iota
	rowEnd
	rowAbort
)

// hubCall is one call of a row: a client does it, ends it, or aborts it.
type hubCall struct {
	kind, who int
	c         impl.Call
}

func newHubRow(t *testing.T, p impl.Plan) *hubRow {
	t.Helper()
	h, code, place := impl.Build(p)
	if code != impl.Done {
		t.Fatal("not built", code, place)
	}
	s := &hubRow{h: h, parents: p.Tokens, off: make([]bool, len(p.Tokens)), subs: make([][]impl.Hit, p.Users)}
	for range p.Notes {
		s.notes = append(s.notes, &tellingBook{})
	}
	for _, auto := range p.Autos {
		s.events = append(s.events, newEventBook(auto))
	}
	for _, n := range p.Counts {
		s.latches = append(s.latches, &latchBook{left: n})
	}
	for _, m := range p.Vals {
		s.cells = append(s.cells, &watchBook{vals: []impl.Msg{m}, seen: make([]int, p.Users)})
	}
	for i, name := range p.Names {
		s.topics.open(name, p.Caps[i])
	}
	for _, w := range p.Weaves {
		for _, number := range w.From {
			s.topics.books[number].b.subscribe(w.Filter, false)
		}
	}
	s.checkBooks(t, "built")
	return s
}

func (s *hubRow) ring(number int) *ringBook { return s.topics.books[number].b }

// has tells whether what the call names is there.
func (s *hubRow) has(x hubCall) bool {
	counts := []int{
		impl.OpTell: len(s.notes), impl.OpTellAll: len(s.notes), impl.OpAwait: len(s.notes), impl.OpRaise: len(s.events), impl.OpReset: len(s.events), impl.OpStand: len(s.events), impl.OpDown: len(s.latches), impl.OpLatch: len(s.latches),
		impl.OpUpdate: len(s.cells), impl.OpLook: len(s.cells), impl.OpWatch: len(s.cells), impl.OpShut: len(s.cells), impl.OpPublish: 1, impl.OpSub: len(s.topics.books), impl.OpRecv: len(s.subs[x.who]), impl.OpUnsub: len(s.subs[x.who]),
		impl.OpClose: len(s.topics.books), impl.OpCancel: len(s.off), impl.OpTimer: len(s.off),
	}
	number := x.c.A
	if x.c.Op == impl.OpRecv || x.c.Op == impl.OpUnsub || x.c.Op == impl.OpTimer {
		number = x.c.B
	}
	return number >= 0 && number < counts[x.c.Op] && x.c.Tok < len(s.off)
}

// write tells how a call is done in the books.
func (s *hubRow) write(x hubCall) impl.Reply {
	switch {
	case !s.has(x):
		return code(impl.None)
	case x.kind == rowEnd:
		return s.writeEnd(x.who, x.c)
	case x.kind == rowAbort:
		return s.writeAbort(x.who, x.c)
	case x.c.Tok >= 0 && s.off[x.c.Tok]:
		return code(impl.Off)
	case x.c.Op <= impl.OpLatch:
		return s.writeWaiter(x.who, x.c)
	case x.c.Op <= impl.OpShut:
		return s.writeCell(x.who, x.c)
	}
	return s.writeTopic(x.who, x.c)
}

// counted is a Reply that tells how many were told.
func counted(told []int, code int) impl.Reply { return impl.Reply{Code: code, N: len(told)} }

func (s *hubRow) writeWaiter(who int, c impl.Call) impl.Reply {
	switch c.Op {
	case impl.OpTell:
		return impl.Reply{N: s.notes[c.A].tellOne()}
	case impl.OpTellAll:
		return counted(s.notes[c.A].tellAll(), impl.Done)
	case impl.OpAwait:
		return code(s.notes[c.A].await(who))
	case impl.OpRaise:
		return counted(s.events[c.A].raise())
	case impl.OpReset:
		s.events[c.A].reset()
		return impl.Reply{}
	case impl.OpStand:
		return code(s.events[c.A].stand(who))
	case impl.OpDown:
		return counted(s.latches[c.A].countDown(c.B))
	}
	return code(s.latches[c.A].standAt(who))
}

// tells is how a book tells its last version to a client.
func (b *watchBook) tells(who int, code int) impl.Reply {
	b.seen[who] = b.last()
	return impl.Reply{Code: code, N: b.last(), Msg: b.vals[len(b.vals)-1]}
}

func (s *hubRow) writeCell(who int, c impl.Call) impl.Reply {
	b := s.cells[c.A]
	switch c.Op {
	case impl.OpUpdate:
		return counted(b.update(impl.Change{Kind: c.B, Msg: c.Msg}))
	case impl.OpShut:
		return counted(b.shut())
	case impl.OpLook:
		if b.closed {
			return b.tells(who, impl.Over)
		}
		return b.tells(who, impl.Done)
	}
	n := b.watch(who)
	if n == impl.Done || n == impl.Over {
		return b.tells(who, n)
	}
	return code(n)
}

func (s *hubRow) writeTopic(who int, c impl.Call) impl.Reply {
	switch c.Op {
	case impl.OpPublish:
		a := s.topics.publish(c.Name, c.Msg)
		return impl.Reply{Code: a.code, N: a.n, M: len(a.told)}
	case impl.OpSub:
		return s.writeSub(who, c)
	case impl.OpRecv:
		hit := s.subs[who][c.B]
		return heard(s.ring(hit.Topic).receive(hit.Id))
	case impl.OpUnsub:
		hit := s.subs[who][c.B]
		return code(s.ring(hit.Topic).unsubscribe(hit.Id))
	case impl.OpClose:
		return counted(s.ring(c.A).close())
	case impl.OpCancel:
		n := 0
		for i := range s.off {
			if !s.off[i] && standsUnder(s.parents, i, c.A) {
				s.off[i] = true
				n++
			}
		}
		return impl.Reply{N: n}
	}
	return s.writeTimer(c)
}

func (s *hubRow) writeSub(who int, c impl.Call) impl.Reply {
	place := len(s.subs[who])
	if place == 12 {
		return code(impl.Full)
	}
	id, n := s.ring(c.A).subscribe(c.Filter, c.B == 1)
	if n != impl.Done {
		return code(n)
	}
	s.subs[who] = append(s.subs[who], impl.Hit{Topic: c.A, Id: id})
	return impl.Reply{N: place}
}

// writeTimer knows that it is always 0 o'clock here.
func (s *hubRow) writeTimer(c impl.Call) impl.Reply {
	switch {
	case c.A < 1, c.A > most:
		return code(impl.Bad)
	case len(s.timers) == 40:
		return code(impl.Full)
	}
	s.timers = append(s.timers, impl.Timer{At: c.A, Token: c.B})
	slices.SortStableFunc(s.timers, func(a impl.Timer, b impl.Timer) int { return a.At - b.At })
	return impl.Reply{}
}

func heard(x impl.Told, code int) impl.Reply {
	r := impl.Reply{Code: code}
	hear(&r, x)
	return r
}

func (s *hubRow) writeEnd(who int, c impl.Call) impl.Reply {
	switch c.Op {
	case impl.OpAwait:
		return code(s.notes[c.A].resume(who))
	case impl.OpStand:
		return code(s.events[c.A].goOn(who))
	case impl.OpLatch:
		return code(s.latches[c.A].pass(who))
	case impl.OpWatch:
		n := s.cells[c.A].see(who)
		if n == impl.Done || n == impl.Over {
			return s.cells[c.A].tells(who, n)
		}
		return code(n)
	}
	hit := s.subs[who][c.B]
	return heard(s.ring(hit.Topic).proceed(hit.Id))
}

func (s *hubRow) writeAbort(who int, c impl.Call) impl.Reply {
	var told []int
	n := impl.Done
	switch c.Op {
	case impl.OpAwait:
		var next int
		next, n = s.notes[c.A].withdraw(who)
		told = listOf(next)
	case impl.OpStand:
		told, n = s.events[c.A].stepBack(who)
	case impl.OpLatch:
		n = s.latches[c.A].quit(who)
	case impl.OpWatch:
		n = s.cells[c.A].unwatch(who)
	case impl.OpRecv:
		hit := s.subs[who][c.B]
		n = s.ring(hit.Topic).quit(hit.Id)
	}
	if n != impl.Done {
		return code(n)
	}
	return impl.Reply{Code: impl.Off, N: len(told)}
}

// checkBooks: each thing of the hub is as its book has it.
func (s *hubRow) checkBooks(t *testing.T, what any) {
	t.Helper()
	ok := impl.HubOk(s.h) && sameTokens(s.h.Tokens, impl.Tokens{Parents: s.parents, Off: s.off}) && sameClock(s.h.Clock, impl.Clock{Timers: s.timers}) && sameTopics(s.h.Topics, s.topics.topics())
	for i, b := range s.notes {
		ok = ok && b.agrees(s.h.Notes[i])
	}
	for i, b := range s.events {
		ok = ok && b.agrees(s.h.Events[i])
	}
	for i, b := range s.latches {
		ok = ok && sameLatch(s.h.Latches[i], impl.Latch{Count: b.left, Line: b.waiting, Grants: b.free})
	}
	for i, b := range s.cells {
		ok = ok && sameCell(s.h.Cells[i], impl.Cell{Val: b.vals[len(b.vals)-1], Version: b.last(), Closed: b.closed, Line: b.waiting, Grants: b.told})
	}
	for who, u := range s.h.Users {
		ok = ok && slices.Equal(u.Subs, s.subs[who])
		for i, b := range s.cells {
			ok = ok && u.Seen[i] == b.seen[who]
		}
	}
	if !ok {
		t.Fatalf("%+v: the hub is not as its books: %s", what, brief(s.h))
	}
}

// do does one call of the program and in the books, and holds what they answer against each other.
func (s *hubRow) do(t *testing.T, x hubCall) impl.Reply {
	t.Helper()
	merges := cloneEach(s.h.Merges, cloneMerge)
	ask := []func(impl.Hub, int, impl.Call) hubAnswer{doOf, endOf, abortOf}[x.kind]
	a, want := ask(s.h, x.who, x.c), s.write(x)
	if a.r != want || !slices.EqualFunc(a.h.Merges, merges, sameMerge) {
		t.Fatalf("%+v of %s\n= %+v, the books say %+v", x, brief(s.h), a.r, want)
	}
	s.h = a.h
	s.checkBooks(t, x)
	return a.r
}

// someNumber is mostly one of n, and at times one beside them.
func someNumber(r *rand.Rand, n int) int {
	if n == 0 || r.IntN(20) == 0 {
		return []int{-1, n, n + 7}[r.IntN(3)]
	}
	return r.IntN(n)
}

// someHubCall ends or aborts what the client may wait at about share times of twenty; more are the ops that it does more often than others.
func someHubCall(r *rand.Rand, s *hubRow, share int, more ...int) hubCall {
	x := hubCall{who: r.IntN(len(s.h.Users))}
	x.c = impl.Call{Op: 1 + r.IntN(19), Tok: -1}
	if len(more) > 0 && r.IntN(3) == 0 {
		x.c.Op = more[r.IntN(len(more))]
	}
	// What is over for good comes seldom, as nothing goes on behind it.
	if slices.Contains([]int{impl.OpShut, impl.OpClose, impl.OpCancel, impl.OpUnsub}, x.c.Op) && r.IntN(8) > 0 {
		x.c.Op = impl.OpRecv
	}
	if r.IntN(20) < share {
		x.kind = rowEnd + r.IntN(2)
		x.c.Op = []int{impl.OpAwait, impl.OpStand, impl.OpLatch, impl.OpWatch, impl.OpRecv}[r.IntN(5)]
	}
	if mayBlock(x.c.Op) && r.IntN(3) == 0 {
		x.c.Tok = max(someNumber(r, len(s.off)), 0)
	}
	s.fill(r, x.who, &x.c)
	return x
}

// fill sets what the op names.
func (s *hubRow) fill(r *rand.Rand, who int, c *impl.Call) {
	switch c.Op {
	case impl.OpTell, impl.OpTellAll, impl.OpAwait:
		c.A = someNumber(r, len(s.notes))
	case impl.OpRaise, impl.OpReset, impl.OpStand:
		c.A = someNumber(r, len(s.events))
	case impl.OpDown, impl.OpLatch:
		c.A = someNumber(r, len(s.latches))
	case impl.OpUpdate, impl.OpLook, impl.OpWatch, impl.OpShut:
		c.A = someNumber(r, len(s.cells))
	case impl.OpSub, impl.OpClose:
		c.A = someNumber(r, len(s.topics.books))
	case impl.OpRecv, impl.OpUnsub:
		c.B = someNumber(r, len(s.subs[who]))
	case impl.OpCancel:
		c.A = someNumber(r, len(s.off))
	case impl.OpTimer:
		c.A, c.B = []int{0, 1, 2 + r.IntN(5), 90, most, most + 1}[r.IntN(6)], someNumber(r, len(s.off))
	case impl.OpPublish:
		c.Name, c.Msg = []string{"a", "a.b", "*", ">", "b", "a.*", "no"}[r.IntN(7)], sentAs(r.IntN(400))
	}
	switch c.Op {
	case impl.OpDown:
		c.B = []int{0, 1, 1, 2, 3, 9}[r.IntN(6)]
	case impl.OpUpdate:
		x := someChange(r)
		c.B, c.Msg = max(x.Kind, 1), x.Msg
		if c.B > 4 || !msgIsRight(c.Msg) {
			c.B, c.Msg = impl.AddIt, num(1)
		}
	case impl.OpSub:
		c.B, c.Filter = r.IntN(2), subFilters()[r.IntN(8)]
	}
}

// TestLongRowsOfAHub goes on with a few clients at many things, by chance, and looks at the promise now and then.
func TestLongRowsOfAHub(t *testing.T) {
	p := impl.Plan{
		Tokens: []int{-1, 0, -1, 2, 1, -1}, Notes: 2, Autos: []bool{true, false, true}, Counts: []int{4, 30, most}, Vals: []impl.Msg{num(3), text("ab")}, Names: []string{"a", "a.b", "b", "c"}, Caps: []int{1, 3, 16, 2},
		Weaves: []impl.Weave{{From: []int{0, 1}, Into: 3}, {From: []int{3}, Into: 2, Filter: allOf(bare(2))}}, Users: 5,
	}
	tally := map[[3]int]int{}
	more := [][]int{nil, {impl.OpSub, impl.OpTimer}, {impl.OpAwait, impl.OpStand, impl.OpLatch, impl.OpWatch}}
	for seed := range uint64(90) {
		r := rand.New(rand.NewPCG(seed, 53))
		s := newHubRow(t, p)
		for i := range 500 {
			x := someHubCall(r, s, 1+int(seed%4)*3, more[seed%3]...)
			if i%25 == 0 {
				checkPromises(t, s.h, x.who, x.c)
			}
			a := s.do(t, x)
			tally[[3]int{x.kind, x.c.Op, a.Code}]++
		}
	}
	for _, x := range rowsOfCodes() {
		if tally[x] < 5 {
			t.Error("these rows come to too little", x, tally[x])
		}
	}
}

// rowsOfCodes are what each call can come to in such a row.
func rowsOfCodes() [][3]int {
	var list [][3]int
	with := func(kind int, codes []int, ops ...int) {
		for _, op := range ops {
			for _, code := range codes {
				list = append(list, [3]int{kind, op, code})
			}
		}
	}
	blocking := []int{impl.OpAwait, impl.OpStand, impl.OpLatch, impl.OpWatch, impl.OpRecv}
	with(rowDo, []int{impl.Done, impl.None}, upTo(1, 19)...)
	with(rowDo, []int{impl.Waits, impl.There, impl.Off}, blocking...)
	with(rowDo, []int{impl.Over}, impl.OpDown, impl.OpUpdate, impl.OpLook, impl.OpWatch, impl.OpShut, impl.OpSub, impl.OpRecv, impl.OpClose, impl.OpPublish)
	with(rowDo, []int{impl.Bad}, impl.OpDown, impl.OpUpdate, impl.OpTimer)
	with(rowDo, []int{impl.Full}, impl.OpSub, impl.OpTimer)
	with(rowEnd, []int{impl.Done, impl.Waits, impl.None}, blocking...)
	with(rowEnd, []int{impl.Over}, impl.OpWatch, impl.OpRecv)
	with(rowAbort, []int{impl.Off, impl.None}, blocking...)
	return list
}
