package tests

import (
	"fmt"
	"math"
	"slices"
	"strings"
	"testing"

	"loop.example/g00098/impl"
)

func cloneEach[T any](list []T, one func(x T) T) []T {
	d := slices.Clone(list)
	for i := range d {
		d[i] = one(d[i])
	}
	return d
}

func cloneUser(u impl.User) impl.User {
	return impl.User{Subs: slices.Clone(u.Subs), Seen: slices.Clone(u.Seen)}
}

func cloneHub(h impl.Hub) impl.Hub {
	return impl.Hub{
		Tokens: cloneTokens(h.Tokens), Clock: cloneClock(h.Clock),
		Notes: cloneEach(h.Notes, cloneNotify), Events: cloneEach(h.Events, cloneEvent), Latches: cloneEach(h.Latches, cloneLatch), Cells: cloneEach(h.Cells, cloneCell),
		Topics: cloneTopics(h.Topics), Merges: cloneEach(h.Merges, cloneMerge), Users: cloneEach(h.Users, cloneUser),
	}
}

func sameUser(a impl.User, b impl.User) bool {
	return slices.Equal(a.Subs, b.Subs) && slices.Equal(a.Seen, b.Seen)
}

func sameHub(a impl.Hub, b impl.Hub) bool {
	if !sameTokens(a.Tokens, b.Tokens) || !sameClock(a.Clock, b.Clock) || !sameTopics(a.Topics, b.Topics) {
		return false
	}
	if !slices.EqualFunc(a.Notes, b.Notes, sameNotify) || !slices.EqualFunc(a.Events, b.Events, sameEvent) || !slices.EqualFunc(a.Latches, b.Latches, sameLatch) {
		return false
	}
	return slices.EqualFunc(a.Cells, b.Cells, sameCell) && slices.EqualFunc(a.Merges, b.Merges, sameMerge) && slices.EqualFunc(a.Users, b.Users, sameUser)
}

func allAre[T any](list []T, n int, right func(x T) bool) bool {
	for _, x := range list {
		if !right(x) {
			return false
		}
	}
	return len(list) <= n
}

func hubIsRight(h impl.Hub) bool {
	user := func(u impl.User) bool {
		return allAre(u.Subs, 12, func(x impl.Hit) bool { return x.Topic >= 0 && x.Topic < len(h.Topics) }) && len(u.Seen) == len(h.Cells)
	}
	merge := func(m impl.Merge) bool { return mergeIsRight(h.Topics, m) }
	things := allAre(h.Notes, 8, notifyIsRight) && allAre(h.Events, 8, eventIsRight) && allAre(h.Latches, 8, latchIsRight) && allAre(h.Cells, 8, cellIsRight)
	return things && tokensAreRight(h.Tokens) && clockIsRight(h.Clock) && topicsAreRight(h.Topics) && allAre(h.Merges, 4, merge) && allAre(h.Users, 64, user)
}

// namesOfOps has a letter for each field that an op names: A, B, T for Tok, N for Name, M for Msg, F for Filter.
var namesOfOps = []string{
	impl.OpTell: "A", impl.OpTellAll: "A", impl.OpAwait: "AT", impl.OpRaise: "A", impl.OpReset: "A", impl.OpStand: "AT", impl.OpDown: "AB", impl.OpLatch: "AT",
	impl.OpUpdate: "ABM", impl.OpLook: "A", impl.OpWatch: "AT", impl.OpShut: "A", impl.OpPublish: "NM", impl.OpSub: "ABF", impl.OpRecv: "BT", impl.OpUnsub: "B",
	impl.OpClose: "A", impl.OpCancel: "A", impl.OpTimer: "AB",
}

// fieldsSet has the letters of the fields that are not as they are where they are not named.
func fieldsSet(c impl.Call) string {
	set := ""
	for _, x := range []struct {
		letter string
		is     bool
	}{{"A", c.A != 0}, {"B", c.B != 0}, {"T", c.Tok != -1}, {"N", c.Name != ""}, {"M", c.Msg != impl.Msg{}}, {"F", len(c.Filter) > 0}} {
		if x.is {
			set += x.letter
		}
	}
	return set
}

func callIsRight(c impl.Call) bool {
	if c.Op < 1 || c.Op > 19 || strings.Trim(fieldsSet(c), namesOfOps[c.Op]) != "" || c.Tok < -1 {
		return false
	}
	switch c.Op {
	case 9:
		return c.B > 0 && c.B < 5 && msgIsRight(c.Msg)
	case 13:
		return patternIsRight(c.Name) && msgIsRight(c.Msg)
	case 14:
		return (c.B == 0 || c.B == 1) && filterIsRight(c.Filter)
	}
	return true
}

func mayBlock(op int) bool { return slices.Contains([]int{3, 6, 8, 11, 15}, op) }

// isThere is asked of a right call of a User.
func isThere(h impl.Hub, who int, c impl.Call) bool {
	tokens, number, count := len(h.Tokens.Parents), c.A, 0
	switch c.Op {
	case 1, 2, 3:
		count = len(h.Notes)
	case 4, 5, 6:
		count = len(h.Events)
	case 7, 8:
		count = len(h.Latches)
	case 9, 10, 11, 12:
		count = len(h.Cells)
	case 13:
		count = 1
	case 14, 17:
		count = len(h.Topics)
	case 15, 16:
		number, count = c.B, len(h.Users[who].Subs)
	case 18:
		count = tokens
	case 19:
		number, count = c.B, tokens
	}
	return number >= 0 && number < count && c.Tok < tokens
}

// refusalAhead is what is looked at ahead of what is asked; Done when nothing of it refuses.
func refusalAhead(h impl.Hub, who int, c impl.Call, waits bool) int {
	switch {
	case !hubIsRight(h), who < 0, who >= len(h.Users), !callIsRight(c), waits && !mayBlock(c.Op):
		return impl.Bad
	case !isThere(h, who, c):
		return impl.None
	case !waits && c.Tok >= 0 && h.Tokens.Off[c.Tok]:
		return impl.Off
	}
	return impl.Done
}

// hubAnswer is what Do, End and Abort answer.
type hubAnswer struct {
	h impl.Hub
	r impl.Reply
}

func doOf(h impl.Hub, who int, c impl.Call) hubAnswer {
	d, r := impl.Do(h, who, c)
	return hubAnswer{d, r}
}

func endOf(h impl.Hub, who int, c impl.Call) hubAnswer {
	d, r := impl.End(h, who, c)
	return hubAnswer{d, r}
}

func abortOf(h impl.Hub, who int, c impl.Call) hubAnswer {
	d, r := impl.Abort(h, who, c)
	return hubAnswer{d, r}
}

// settled is h as it was, and the code alone, where that refuses.
func settled(h impl.Hub, a hubAnswer) hubAnswer {
	if a.r.Code == impl.Done || a.r.Code == impl.Waits || a.r.Code == impl.Over {
		return a
	}
	return hubAnswer{h: cloneHub(h), r: impl.Reply{Code: a.r.Code}}
}

// doBy asks the functions that the table names, and lays what they answer into a copy.
func doBy(h impl.Hub, who int, c impl.Call) hubAnswer {
	a := hubAnswer{h: cloneHub(h), r: impl.Reply{Code: refusalAhead(h, who, c, false)}}
	if a.r.Code != impl.Done {
		return a
	}
	switch {
	case c.Op <= 8:
		askWaiter(&a, h, who, c)
	case c.Op <= 12:
		askCell(&a, h, who, c)
	case c.Op <= 17:
		askTopic(&a, h, who, c)
	case c.Op == 18:
		var gone []int
		a.h.Tokens, gone, a.r.Code = impl.Cancel(h.Tokens, c.A)
		a.r.N = len(gone)
	default:
		a.h.Clock, a.r.Code = impl.SetTimer(h.Clock, c.A, c.B)
	}
	return settled(h, a)
}

func askWaiter(a *hubAnswer, h impl.Hub, who int, c impl.Call) {
	var told []int
	switch c.Op {
	case 1:
		a.h.Notes[c.A], a.r.N, a.r.Code = impl.TellOne(h.Notes[c.A])
		return
	case 2:
		a.h.Notes[c.A], told, a.r.Code = impl.TellAll(h.Notes[c.A])
	case 3:
		a.h.Notes[c.A], a.r.Code = impl.Await(h.Notes[c.A], who)
	case 4:
		a.h.Events[c.A], told, a.r.Code = impl.Raise(h.Events[c.A])
	case 5:
		a.h.Events[c.A], a.r.Code = impl.Reset(h.Events[c.A])
	case 6:
		a.h.Events[c.A], a.r.Code = impl.Stand(h.Events[c.A], who)
	case 7:
		a.h.Latches[c.A], told, a.r.Code = impl.CountDown(h.Latches[c.A], c.B)
	case 8:
		a.h.Latches[c.A], a.r.Code = impl.StandAt(h.Latches[c.A], who)
	}
	a.r.N = len(told)
}

func askCell(a *hubAnswer, h impl.Hub, who int, c impl.Call) {
	var told []int
	cell := h.Cells[c.A]
	switch c.Op {
	case 9:
		a.h.Cells[c.A], told, a.r.Code = impl.Update(cell, impl.Change{Kind: c.B, Msg: c.Msg})
	case 10:
		_, _, a.r.Code = impl.Look(cell)
	case 11:
		a.h.Cells[c.A], a.r.Code = impl.Watch(cell, who, h.Users[who].Seen[c.A])
	case 12:
		a.h.Cells[c.A], told, a.r.Code = impl.Shut(cell)
	}
	a.r.N = len(told)
	if (c.Op == 10 || c.Op == 11) && (a.r.Code == impl.Done || a.r.Code == impl.Over) {
		a.r.N, a.r.Msg, a.h.Users[who].Seen[c.A] = cell.Version, cell.Val, cell.Version
	}
}

func askTopic(a *hubAnswer, h impl.Hub, who int, c impl.Call) {
	var told []int
	switch c.Op {
	case 13:
		var hits []impl.Hit
		a.h.Topics, hits, a.r.N, a.r.Code = impl.Publish(h.Topics, c.Name, c.Msg)
		a.r.M = len(hits)
	case 14:
		n, id := len(h.Users[who].Subs), 0
		if n == 12 {
			a.r.Code = impl.Full
			return
		}
		a.h.Topics[c.A].Ring, id, a.r.Code = impl.Subscribe(h.Topics[c.A].Ring, c.Filter, c.B == 1)
		if a.r.Code == impl.Done {
			a.r.N, a.h.Users[who].Subs = n, append(a.h.Users[who].Subs, impl.Hit{Topic: c.A, Id: id})
		}
	case 15:
		hit := h.Users[who].Subs[c.B]
		var x impl.Told
		a.h.Topics[hit.Topic].Ring, x, a.r.Code = impl.Receive(h.Topics[hit.Topic].Ring, hit.Id)
		hear(&a.r, x)
	case 16:
		hit := h.Users[who].Subs[c.B]
		a.h.Topics[hit.Topic].Ring, a.r.Code = impl.Unsubscribe(h.Topics[hit.Topic].Ring, hit.Id)
	case 17:
		a.h.Topics[c.A].Ring, told, a.r.Code = impl.CloseRing(h.Topics[c.A].Ring)
		a.r.N = len(told)
	}
}

// hear is how a Reply tells what a reader was told.
func hear(r *impl.Reply, x impl.Told) {
	switch x.Kind {
	case 1:
		r.N, r.Msg = x.Index, x.Msg
	case 2:
		r.M = x.N
	}
}

func endBy(h impl.Hub, who int, c impl.Call) hubAnswer {
	a := hubAnswer{h: cloneHub(h), r: impl.Reply{Code: refusalAhead(h, who, c, true)}}
	if a.r.Code != impl.Done {
		return a
	}
	switch c.Op {
	case 3:
		a.h.Notes[c.A], a.r.Code = impl.Resume(h.Notes[c.A], who)
	case 6:
		a.h.Events[c.A], a.r.Code = impl.GoOn(h.Events[c.A], who)
	case 8:
		a.h.Latches[c.A], a.r.Code = impl.PassLatch(h.Latches[c.A], who)
	case 11:
		a.h.Cells[c.A], a.r.Msg, a.r.N, a.r.Code = impl.Seen(h.Cells[c.A], who)
		if a.r.Code == impl.Done || a.r.Code == impl.Over {
			a.h.Users[who].Seen[c.A] = a.r.N
		}
	case 15:
		hit := h.Users[who].Subs[c.B]
		var x impl.Told
		a.h.Topics[hit.Topic].Ring, x, a.r.Code = impl.Proceed(h.Topics[hit.Topic].Ring, hit.Id)
		hear(&a.r, x)
	}
	return settled(h, a)
}

func abortBy(h impl.Hub, who int, c impl.Call) hubAnswer {
	a := hubAnswer{h: cloneHub(h), r: impl.Reply{Code: refusalAhead(h, who, c, true)}}
	if a.r.Code != impl.Done {
		return a
	}
	var told []int
	switch c.Op {
	case 3:
		var next int
		a.h.Notes[c.A], next, a.r.Code = impl.Withdraw(h.Notes[c.A], who)
		told = listOf(next)
	case 6:
		a.h.Events[c.A], told, a.r.Code = impl.StepBack(h.Events[c.A], who)
	case 8:
		a.h.Latches[c.A], a.r.Code = impl.QuitLatch(h.Latches[c.A], who)
	case 11:
		a.h.Cells[c.A], a.r.Code = impl.Unwatch(h.Cells[c.A], who)
	case 15:
		hit := h.Users[who].Subs[c.B]
		a.h.Topics[hit.Topic].Ring, a.r.Code = impl.Unwait(h.Topics[hit.Topic].Ring, hit.Id)
	}
	a.r.N = len(told)
	if a.r.Code != impl.Done {
		return settled(h, a)
	}
	a.r.Code = impl.Off
	return a
}

// standsAt is who waits at what a blocking call names and who was told there, and by which number the client is among them.
func standsAt(h impl.Hub, who int, c impl.Call) (line []int, grants []int, number int) {
	switch c.Op {
	case 3:
		for _, g := range h.Notes[c.A].Grants {
			grants = append(grants, g.Who)
		}
		return h.Notes[c.A].Line, grants, who
	case 6:
		return h.Events[c.A].Line, h.Events[c.A].Grants, who
	case 8:
		return h.Latches[c.A].Line, h.Latches[c.A].Grants, who
	case 11:
		return h.Cells[c.A].Line, h.Cells[c.A].Grants, who
	}
	hit := h.Users[who].Subs[c.B]
	return h.Topics[hit.Topic].Ring.Line, h.Topics[hit.Topic].Ring.Grants, hit.Id
}

func freeBy(h impl.Hub, who int, c impl.Call) bool {
	if refusalAhead(h, who, c, true) != impl.Done {
		return false
	}
	_, grants, number := standsAt(h, who, c)
	return slices.Contains(grants, number)
}

func roomOf[T any](list []T) []T { return list[:cap(list)] }

// roomyEach has spare room behind the list, and behind the lists of what stands in it.
func roomyEach[T any](list []T, fill T, one func(x T) T) []T {
	return append(cloneEach(list, one), fill, fill)[:len(list)]
}

// littleRoom is behind each list of a hub: there are so many of them that more of it would take long to look at.
func littleRoom[T any](list []T, fill T) []T {
	return append(slices.Clone(list), fill, fill)[:len(list)]
}

var (
	fillTimer = impl.Timer{At: filler, Token: filler}
	fillHit   = impl.Hit{Topic: filler, Id: filler}
	fillUser  = impl.User{Seen: []int{filler}}
)

func roomyHub(h impl.Hub) impl.Hub {
	numbers := func(list []int) []int { return littleRoom(list, filler) }
	return impl.Hub{
		Tokens: impl.Tokens{Parents: numbers(h.Tokens.Parents), Off: littleRoom(h.Tokens.Off, true)},
		Clock:  impl.Clock{Now: h.Clock.Now, Timers: littleRoom(h.Clock.Timers, fillTimer)},
		Notes: roomyEach(h.Notes, impl.Notify{Ones: filler}, func(n impl.Notify) impl.Notify {
			n.Line, n.Grants = numbers(n.Line), littleRoom(n.Grants, grantFiller)
			return n
		}),
		Events: roomyEach(h.Events, impl.Event{Sets: filler}, func(e impl.Event) impl.Event {
			e.Line, e.Grants = numbers(e.Line), numbers(e.Grants)
			return e
		}),
		Latches: roomyEach(h.Latches, impl.Latch{Count: filler}, func(l impl.Latch) impl.Latch {
			l.Line, l.Grants = numbers(l.Line), numbers(l.Grants)
			return l
		}),
		Cells: roomyEach(h.Cells, impl.Cell{Version: filler}, func(c impl.Cell) impl.Cell {
			c.Line, c.Grants = numbers(c.Line), numbers(c.Grants)
			return c
		}),
		Topics: roomyTopics(h.Topics),
		Merges: roomyEach(h.Merges, impl.Merge{Into: filler}, func(m impl.Merge) impl.Merge {
			m.Legs = littleRoom(m.Legs, fillLeg)
			return m
		}),
		Users: roomyEach(h.Users, fillUser, func(u impl.User) impl.User {
			return impl.User{Subs: littleRoom(u.Subs, fillHit), Seen: numbers(u.Seen)}
		}),
	}
}

// wholeHub is a hub in which the room behind each list is a part of it; its lists are the same memory.
func wholeHub(h impl.Hub) impl.Hub {
	return impl.Hub{
		Tokens: impl.Tokens{Parents: roomOf(h.Tokens.Parents), Off: roomOf(h.Tokens.Off)},
		Clock:  impl.Clock{Now: h.Clock.Now, Timers: roomOf(h.Clock.Timers)},
		Notes: cloneEach(roomOf(h.Notes), func(n impl.Notify) impl.Notify {
			n.Line, n.Grants = roomOf(n.Line), roomOf(n.Grants)
			return n
		}),
		Events: cloneEach(roomOf(h.Events), func(e impl.Event) impl.Event {
			e.Line, e.Grants = roomOf(e.Line), roomOf(e.Grants)
			return e
		}),
		Latches: cloneEach(roomOf(h.Latches), func(l impl.Latch) impl.Latch {
			l.Line, l.Grants = roomOf(l.Line), roomOf(l.Grants)
			return l
		}),
		Cells: cloneEach(roomOf(h.Cells), func(c impl.Cell) impl.Cell {
			c.Line, c.Grants = roomOf(c.Line), roomOf(c.Grants)
			return c
		}),
		Topics: cloneEach(roomOf(h.Topics), func(x impl.Topic) impl.Topic {
			r := &x.Ring
			r.Items, r.Line, r.Grants = roomOf(r.Items), roomOf(r.Line), roomOf(r.Grants)
			r.Subs = cloneEach(roomOf(r.Subs), func(s impl.Sub) impl.Sub {
				s.Filter = roomOf(s.Filter)
				return s
			})
			return x
		}),
		Merges: cloneEach(roomOf(h.Merges), func(m impl.Merge) impl.Merge {
			m.Legs = roomOf(m.Legs)
			return m
		}),
		Users: cloneEach(roomOf(h.Users), func(u impl.User) impl.User {
			return impl.User{Subs: roomOf(u.Subs), Seen: roomOf(u.Seen)}
		}),
	}
}

func placesIn[T any](list []T, one func(x *T) []*int) []*int {
	var places []*int
	room := roomOf(list)
	for i := range room {
		places = append(places, one(&room[i])...)
	}
	return places
}

func numberPlaces(lists ...[]int) []*int {
	var places []*int
	for _, list := range lists {
		places = append(places, placesIn(list, func(n *int) []*int { return []*int{n} })...)
	}
	return places
}

// hubPlaces is where a number can be laid into the lists of a hub, and into the room behind them.
func hubPlaces(h impl.Hub) []*int {
	return slices.Concat(
		numberPlaces(h.Tokens.Parents),
		placesIn(h.Clock.Timers, func(x *impl.Timer) []*int { return []*int{&x.At} }),
		placesIn(h.Notes, func(n *impl.Notify) []*int {
			grants := placesIn(n.Grants, func(g *impl.Grant) []*int { return []*int{&g.Who} })
			return slices.Concat([]*int{&n.Ones}, numberPlaces(n.Line), grants)
		}),
		placesIn(h.Events, func(e *impl.Event) []*int { return append(numberPlaces(e.Line, e.Grants), &e.Sets) }),
		placesIn(h.Latches, func(l *impl.Latch) []*int { return append(numberPlaces(l.Line, l.Grants), &l.Count) }),
		placesIn(h.Cells, func(c *impl.Cell) []*int { return append(numberPlaces(c.Line, c.Grants), &c.Version) }),
		topicPlaces(h.Topics, nil),
		placesIn(h.Merges, func(m *impl.Merge) []*int {
			return append(placesIn(m.Legs, func(leg *impl.Leg) []*int { return []*int{&leg.Lost} }), &m.Into)
		}),
		placesIn(h.Users, func(u *impl.User) []*int {
			return append(placesIn(u.Subs, func(x *impl.Hit) []*int { return []*int{&x.Id} }), numberPlaces(u.Seen)...)
		}),
	)
}

// spoilHub changes all that a hub's lists have, and tells whether no two of them share memory.
func spoilHub(h impl.Hub) bool {
	apart := lieApart(hubPlaces(h))
	spoilWith(h.Tokens.Off, func(off bool) bool { return !off })
	spoilWith(h.Users, func(impl.User) impl.User { return impl.User{Seen: []int{filler + 1}} })
	return apart
}

// hubGiven is what was handed in, and how it was ahead of the call.
type hubGiven struct {
	h      impl.Hub
	before impl.Hub
}

func giveHub(h impl.Hub) hubGiven {
	g := hubGiven{h: roomyHub(h)}
	g.before = cloneHub(wholeHub(g.h))
	return g
}

func (g hubGiven) checkKept(t *testing.T, what string) {
	t.Helper()
	if !sameHub(wholeHub(g.h), g.before) {
		t.Fatalf("%s: what was handed in has changed: %s", what, brief(g.before))
	}
}

// checkHubAnswer holds an answer against the one that is wanted. Then it spoils the answer: where that is shared with what was handed in, that has changed.
func (g hubGiven) checkHubAnswer(t *testing.T, what string, got hubAnswer, want hubAnswer) {
	t.Helper()
	if !sameHub(got.h, want.h) || got.r != want.r {
		t.Fatalf("%s\nof %s\n= %s\nwant %s", what, brief(g.h), brief(got), brief(want))
	}
	if !spoilHub(got.h) {
		t.Fatalf("%s: two lists of the answer share memory: %s", what, brief(g.before))
	}
	g.checkKept(t, what)
}

// checkCall asks Do, Free, End and Abort. What was handed in is the same for all of them, as none may change it.
func (g hubGiven) checkCall(t *testing.T, h impl.Hub, who int, c impl.Call) {
	t.Helper()
	f := c.Filter
	c.Filter = roomyWith(f, fillTerm)
	what := fmt.Sprintf("by %d: %s", who, brief(c))
	g.checkHubAnswer(t, "Do "+what, doOf(g.h, who, c), doBy(h, who, c))
	g.checkHubAnswer(t, "End "+what, endOf(g.h, who, c), endBy(h, who, c))
	g.checkHubAnswer(t, "Abort "+what, abortOf(g.h, who, c), abortBy(h, who, c))
	if free := impl.Free(g.h, who, c); free != freeBy(h, who, c) {
		t.Fatalf("Free %s\nof %s = %v", what, brief(h), free)
	}
	g.checkKept(t, "Free "+what)
	if !roomKeptWith(c.Filter, f, fillTerm) {
		t.Fatalf("%s: the Filter that was handed in has changed", what)
	}
}

func checkCalls(t *testing.T, h impl.Hub, whos []int, calls []impl.Call) {
	t.Helper()
	g := giveHub(h)
	if ok := impl.HubOk(g.h); ok != hubIsRight(h) {
		t.Fatalf("HubOk(%s) = %v", brief(h), ok)
	}
	g.checkKept(t, "HubOk")
	for _, who := range whos {
		for _, c := range calls {
			g.checkCall(t, h, who, c)
		}
	}
}

// numbersAround are those of n things, and those beside them, near and far.
func numbersAround(n int) []int {
	return append(upTo(-1, n+2), math.MinInt, math.MaxInt)
}

// callsAt are of each op, with each number of a thing that is there, and with others; with tokens of each kind where they may block.
func callsAt(h impl.Hub, toks []int) []impl.Call {
	var calls []impl.Call
	for op := 1; op <= 19; op++ {
		for _, n := range append(numbersAround(8), 11, 12) {
			c := impl.Call{Op: op, A: n, Tok: -1}
			switch op {
			case impl.OpDown:
				calls = append(calls, asksWith(op, n, 0), asksWith(op, n, 1), asksWith(op, n, 3), asksWith(op, n, math.MaxInt))
			case impl.OpTimer:
				calls = append(calls, asksWith(op, 0, n), asksWith(op, 5, n), asksWith(op, math.MaxInt, n))
			case impl.OpUpdate:
				calls = append(calls, changes(n, add(5)), changes(n, joinOn("c")), changes(n, put(text("x"))))
			case impl.OpSub:
				calls = append(calls, c, asksWith(op, n, 1), subscribes(n, 1, allOf(bare(2), bare(8))))
			case impl.OpRecv, impl.OpUnsub:
				c.A, c.B = 0, n
				calls = append(calls, c)
			case impl.OpPublish:
			default:
				calls = append(calls, c)
			}
		}
	}
	for _, pattern := range []string{"a", "a.b", "a.*", ">", "*", "b", "c", "into", "no.such.one"} {
		calls = append(calls, publishes(pattern, num(8)), publishes(pattern, text("abc")))
	}
	for _, c := range slices.Clone(calls) {
		for _, tok := range toks {
			if mayBlock(c.Op) {
				calls = append(calls, byToken(c, tok))
			}
		}
	}
	return calls
}

// TestEachCallAtEachThing has all calls at a hub with things of each kind, by each client and by who is none.
func TestEachCallAtEachThing(t *testing.T) {
	h := handHub()
	checkCalls(t, h, numbersAround(len(h.Users)), callsAt(h, nil))
	checkCalls(t, h, []int{-1, 0, 3}, callsAt(h, []int{math.MinInt, -2, 0, 1, 2, 3, 4, 5, math.MaxInt}))
}

// bareHub has one thing of each kind, 64 clients, and two tokens, the second one off.
func bareHub() impl.Hub {
	return impl.Hub{
		Tokens: tokens([]int{-1, -1}, 1), Notes: []impl.Notify{{}}, Events: []impl.Event{{}}, Latches: []impl.Latch{{Count: 1}}, Cells: []impl.Cell{openCell(num(1), 2, nil, nil)},
		Topics: empties("a"), Users: users(64, 2),
	}
}

// fewOf are three of all, at each place others, so that all are come to.
func fewOf(i int, all []int) []int {
	return []int{all[i%len(all)], all[(i+5)%len(all)], all[(i+9)%len(all)]}
}

// TestEachNoteInAHub has Notes of each kind behind another one.
func TestEachNoteInAHub(t *testing.T) {
	calls := []impl.Call{asks(impl.OpTell, 1), asks(impl.OpTellAll, 1), asks(impl.OpAwait, 1), byToken(asks(impl.OpAwait, 1), 0)}
	for i, n := range rightNotifies() {
		if i%3 == 0 {
			h := bareHub()
			h.Notes = append(h.Notes, n)
			checkCalls(t, h, fewOf(i, whosFor(n)), calls)
		}
	}
}

func TestEachEventInAHub(t *testing.T) {
	calls := []impl.Call{asks(impl.OpRaise, 1), asks(impl.OpReset, 1), asks(impl.OpStand, 1), byToken(asks(impl.OpStand, 1), 0)}
	for i, e := range rightEvents() {
		if i%3 == 0 {
			h := bareHub()
			h.Events = append(h.Events, e)
			checkCalls(t, h, fewOf(i, whosAround(e.Line, e.Grants)), calls)
		}
	}
}

func TestEachLatchInAHub(t *testing.T) {
	for i, l := range rightLatches() {
		h := bareHub()
		h.Latches = append(h.Latches, l)
		calls := []impl.Call{asks(impl.OpLatch, 1), byToken(asks(impl.OpLatch, 1), 0)}
		for _, n := range []int{0, 1, l.Count - 1, l.Count, l.Count + 1} {
			calls = append(calls, asksWith(impl.OpDown, 1, n))
		}
		checkCalls(t, h, fewOf(i, whosAround(l.Line, l.Grants)), calls)
	}
}

func TestEachCellInAHub(t *testing.T) {
	for i, c := range rightCells() {
		h := bareHub()
		h.Cells = append(h.Cells, c)
		calls := []impl.Call{asks(impl.OpLook, 1), asks(impl.OpShut, 1), asks(impl.OpWatch, 1), byToken(asks(impl.OpWatch, 1), 0)}
		for _, x := range changesFor(c.Val) {
			if (i+len(calls))%7 == 0 || len(calls) < 8 {
				calls = append(calls, changes(1, x))
			}
		}
		for j, seen := range seensFor(c) {
			for who := range h.Users {
				h.Users[who].Seen = []int{0, seen}
			}
			if (i+j)%3 == 0 {
				checkCalls(t, h, fewOf(i+j, whosAround(c.Line, c.Grants)), calls)
			}
		}
	}
}

// TestEachRingInAHub has rings of each kind, with some of their Subs at the places of a client.
func TestEachRingInAHub(t *testing.T) {
	for i, r := range rightRings() {
		if i%11 != 0 {
			continue
		}
		h := bareHub()
		h.Users = h.Users[:4]
		h.Topics = append(h.Topics, topic("a.b", r))
		for _, id := range idsAround(r) {
			if n := len(h.Users[3].Subs); n < 11 {
				h.Users[3].Subs = append(h.Users[3].Subs, impl.Hit{Topic: 1, Id: id})
			}
		}
		calls := []impl.Call{asks(impl.OpClose, 1), publishes("a.*", num(4)), publishes(">", text("ab")), subscribes(1, 0, nil), subscribes(1, 1, allOf(bare(2)))}
		for place := range h.Users[3].Subs {
			calls = append(calls, takes(impl.OpRecv, place), takes(impl.OpUnsub, place))
		}
		checkCalls(t, h, []int{3}, calls)
	}
}

// TestEachClockAndTokensInAHub has timers for tokens that are there and for others, and cancels at trees of each kind.
func TestEachClockAndTokensInAHub(t *testing.T) {
	trees := rightTokens()
	for i, c := range rightClocks() {
		h := bareHub()
		h.Users = h.Users[:2]
		h.Clock, h.Tokens = c, trees[(i*37)%len(trees)]
		var calls []impl.Call
		for j, in := range oddTimes(c) {
			n := len(h.Tokens.Parents)
			calls = append(calls, asksWith(impl.OpTimer, in, j%(n+1)), asksWith(impl.OpTimer, in, 0), asksWith(impl.OpTimer, in, n-1))
		}
		checkCalls(t, h, []int{1}, calls)
	}
	for _, x := range trees {
		h := bareHub()
		h.Users = h.Users[:2]
		h.Tokens = x
		var calls []impl.Call
		for _, token := range oddTokens(len(x.Parents)) {
			calls = append(calls, asks(impl.OpCancel, token), byToken(asks(impl.OpAwait, 0), token), byToken(takes(impl.OpRecv, 0), token))
		}
		checkCalls(t, h, []int{0}, calls)
	}
}

// TestEachOddCall has calls of each op in which each field is set by itself, and two of them at a time; right ones among them.
func TestEachOddCall(t *testing.T) {
	h := handHub()
	sets := []func(c *impl.Call){
		func(c *impl.Call) {}, func(c *impl.Call) { c.A = 1 }, func(c *impl.Call) { c.A = -1 }, func(c *impl.Call) { c.B = 1 }, func(c *impl.Call) { c.B = -1 }, func(c *impl.Call) { c.B = 2 }, func(c *impl.Call) { c.B = 4 }, func(c *impl.Call) { c.B = 5 },
		func(c *impl.Call) { c.Tok = 0 }, func(c *impl.Call) { c.Tok = 2 }, func(c *impl.Call) { c.Tok = -2 }, func(c *impl.Call) { c.Tok = math.MinInt }, func(c *impl.Call) { c.Tok = math.MaxInt },
		func(c *impl.Call) { c.Name = "a" }, func(c *impl.Call) { c.Name = "*" }, func(c *impl.Call) { c.Name = " " }, func(c *impl.Call) { c.Msg = num(0) }, func(c *impl.Call) { c.Msg = text("") }, func(c *impl.Call) { c.Msg.Num = 1 }, func(c *impl.Call) { c.Msg.Text = "a" }, func(c *impl.Call) { c.Msg.Kind = 3 },
		func(c *impl.Call) { c.Filter = []impl.Term{} }, func(c *impl.Call) { c.Filter = allOf(bare(1)) }, func(c *impl.Call) { c.Filter = allOf(bare(0)) },
	}
	right := map[int]int{}
	var calls []impl.Call
	for _, op := range append(upTo(-1, 22), math.MinInt, math.MaxInt, 1<<32+1, 257) {
		for i, one := range sets {
			for _, other := range sets[:i+1] {
				c := impl.Call{Op: op, Tok: -1}
				one(&c)
				other(&c)
				calls = append(calls, c)
				if ok := impl.CallOk(c); ok != callIsRight(c) {
					t.Fatalf("CallOk(%+v) = %v", c, ok)
				} else if ok {
					right[op]++
				}
			}
		}
	}
	if len(right) != 19 {
		t.Error("ops of right calls", right)
	}
	for i, c := range calls {
		if i%3 == 0 {
			giveHub(h).checkCall(t, h, i%7, c)
		}
	}
}

// TestEachMessageNameAndFilterOfACall has those that are right, and those that are not.
func TestEachMessageNameAndFilterOfACall(t *testing.T) {
	check := func(c impl.Call) {
		t.Helper()
		given := c
		given.Filter = roomyWith(c.Filter, fillTerm)
		if ok := impl.CallOk(given); ok != callIsRight(c) {
			t.Fatalf("CallOk(%s) = %v", brief(c), ok)
		}
		if !roomKeptWith(given.Filter, c.Filter, fillTerm) {
			t.Fatal("CallOk has changed the Filter", brief(c))
		}
	}
	for _, m := range append(rightMsgs(), wrongMsgs()...) {
		for kind := -1; kind <= 6; kind++ {
			check(changes(3, impl.Change{Kind: kind, Msg: m}))
		}
		check(publishes("a.*", m))
		check(impl.Call{Op: impl.OpLook, Msg: m, Tok: -1})
	}
	for _, s := range slices.Concat(rightNames(), rightPatterns(), wrongTexts()) {
		check(publishes(s, num(1)))
		check(publishes(s, impl.Msg{}))
		check(impl.Call{Op: impl.OpSub, Name: s, Tok: -1})
	}
	for _, f := range append(subFilters(), wrongFilters()...) {
		for _, back := range []int{-1, 0, 1, 2, math.MaxInt} {
			check(subscribes(3, back, f))
		}
		check(impl.Call{Op: impl.OpRecv, Filter: f, Tok: -1})
	}
}

// wrongHubs are not HubOk, each for one reason.
func wrongHubs() []impl.Hub {
	var list []impl.Hub
	fault := func(change func(h *impl.Hub)) {
		h := handHub()
		change(&h)
		list = append(list, h)
	}
	hit := func(number int) []impl.Hit { return []impl.Hit{{Topic: 0, Id: 2}, {Topic: number, Id: 2}} }
	fault(func(h *impl.Hub) { h.Tokens.Off = h.Tokens.Off[:4] })
	fault(func(h *impl.Hub) { h.Tokens.Off[3] = false })
	fault(func(h *impl.Hub) { h.Tokens = tokens(apart(25)) })
	fault(func(h *impl.Hub) { h.Clock.Now = -1 })
	fault(func(h *impl.Hub) { h.Clock.Timers[0].At = 21 })
	fault(func(h *impl.Hub) { h.Clock = row(10, 15, 0, 41) })
	fault(func(h *impl.Hub) { h.Notes = append(h.Notes, impl.Notify{}) })
	fault(func(h *impl.Hub) { h.Events = append(h.Events, impl.Event{}) })
	fault(func(h *impl.Hub) { h.Latches = append(h.Latches, make([]impl.Latch, 9-len(h.Latches))...) })
	fault(func(h *impl.Hub) {
		for len(h.Cells) < 9 {
			h.Cells = append(h.Cells, openCell(num(1), 0, nil, nil))
		}
		for who := range h.Users {
			h.Users[who].Seen = make([]int, 9)
		}
	})
	for _, i := range []int{0, 3, 7} {
		fault(func(h *impl.Hub) { h.Notes[i].Ones++ })
		fault(func(h *impl.Hub) { h.Events[i].Line = append(h.Events[i].Line, 64) })
	}
	for _, i := range []int{0, 2, 4} {
		fault(func(h *impl.Hub) { h.Latches[i].Count = -1 })
		fault(func(h *impl.Hub) { h.Cells[i].Val = impl.Msg{} })
	}
	for _, i := range []int{0, 2, 5} {
		fault(func(h *impl.Hub) { h.Topics[i].Name = "" })
		fault(func(h *impl.Hub) { h.Topics[i].Ring.Cap = 17 })
		fault(func(h *impl.Hub) { h.Users[i].Seen = h.Users[i].Seen[:4] })
		fault(func(h *impl.Hub) { h.Users[i].Seen = append(h.Users[i].Seen, 0) })
		fault(func(h *impl.Hub) { h.Users[i].Seen = nil })
		for _, number := range []int{-1, 6, math.MinInt, math.MaxInt} {
			fault(func(h *impl.Hub) { h.Users[i].Subs = hit(number) })
		}
		fault(func(h *impl.Hub) { h.Users[i].Subs = slices.Repeat(hit(1), 7)[:13] })
	}
	fault(func(h *impl.Hub) { h.Topics[5].Name = "a" })
	fault(func(h *impl.Hub) {
		for i := range 7 {
			h.Topics = append(h.Topics, topic(string(rune('p'+i)), keeps(1, 0, nil, 0)))
		}
	})
	fault(func(h *impl.Hub) { h.Merges[0].Legs[0].Id = 1 })
	fault(func(h *impl.Hub) { h.Merges[0].Legs[0].Id = 4 })
	fault(func(h *impl.Hub) { h.Merges[1].Into = 4 })
	fault(func(h *impl.Hub) { h.Merges[1].Legs = nil })
	fault(func(h *impl.Hub) { h.Merges[0].Moved = -1 })
	fault(func(h *impl.Hub) { h.Merges = slices.Repeat(h.Merges[:1], 5) })
	fault(func(h *impl.Hub) { h.Users = append(h.Users, slices.Repeat(h.Users[:1], 59)...) })
	return list
}

// TestWrongHubs has its answers written out: the hub handed back, Bad alone, and nobody free.
func TestWrongHubs(t *testing.T) {
	calls := []impl.Call{asks(impl.OpTell, 0), asks(impl.OpAwait, 2), byToken(asks(impl.OpStand, 2), 2), asks(impl.OpTell, 99), takes(impl.OpRecv, 0), {}}
	for i, h := range wrongHubs() {
		for who := range 5 {
			for j, c := range calls {
				want := hubAnswer{h: h, r: impl.Reply{Code: impl.Bad}}
				for _, got := range []hubAnswer{doOf(h, who, c), endOf(h, who, c), abortOf(h, who, c)} {
					if !sameHub(got.h, want.h) || got.r != want.r {
						t.Fatal("not refused", i, who, j, got.r, brief(got.h))
					}
				}
				if impl.HubOk(h) || impl.Free(h, who, c) {
					t.Fatal("right", i, who, j)
				}
			}
		}
		checkCalls(t, h, []int{-1, 3, 64}, calls)
	}
}

// TestWrongThingsInAHub has of each chapter what is not right there.
func TestWrongThingsInAHub(t *testing.T) {
	calls := []impl.Call{asks(impl.OpTell, 0), asks(impl.OpLook, 0)}
	check := func(i int, change func(h *impl.Hub)) {
		t.Helper()
		h := bareHub()
		h.Users = h.Users[:2]
		change(&h)
		if impl.HubOk(h) {
			t.Fatal("right", i, brief(h))
		}
		if i%10 == 0 {
			checkCalls(t, h, []int{0}, calls)
		}
	}
	for i, x := range wrongTokens() {
		check(i, func(h *impl.Hub) { h.Tokens = x })
	}
	for i, c := range wrongClocks() {
		check(i, func(h *impl.Hub) { h.Clock = c })
	}
	for i, n := range wrongNotifies() {
		check(i, func(h *impl.Hub) { h.Notes = slices.Insert(h.Notes, i%2, n) })
	}
	for i, e := range wrongEvents() {
		check(i, func(h *impl.Hub) { h.Events = slices.Insert(h.Events, i%2, e) })
	}
	for i, l := range wrongLatches() {
		check(i, func(h *impl.Hub) { h.Latches = slices.Insert(h.Latches, i%2, l) })
	}
	for i, c := range wrongCells() {
		check(i, func(h *impl.Hub) {
			h.Cells, h.Users = slices.Insert(h.Cells, i%2, c), users(2, 2, 2)
		})
	}
	for i, r := range wrongRings() {
		check(i, func(h *impl.Hub) { h.Topics = slices.Insert(h.Topics, i%2, topic("z", r)) })
	}
	for _, x := range mergeBases() {
		for i, m := range mergeFaults(x.m, len(x.list)) {
			check(i, func(h *impl.Hub) { h.Topics, h.Merges = x.list, slices.Insert([]impl.Merge{x.m}, i%2, m) })
		}
	}
}

// TestHubsThatShareTheirLists hands in things that have their lists in common, and parts of longer ones: no two lists of an answer may share memory, nor one of them with what was handed in.
func TestHubsThatShareTheirLists(t *testing.T) {
	ids, grants := []int{1, 2, 3, 4, 9, 9}, append(byOne(3), byAll(4, 9)...)
	note := impl.Notify{Line: ids[:2], Grants: grants[:2], Ones: 1}
	terms := allOf(bare(2), bare(8), fillTerm)
	subs := []impl.Sub{fresh(0, 6), fresh(1, 6, terms[:2]...), fresh(2, 4), fillSub}
	subs[1].Filter = terms[:2]
	ring := impl.Ring{Cap: 2, Sent: 6, Items: append(nums(5, 6), fillMsg)[:2], Next: 5, Subs: subs[:3], Line: ids[:1], Grants: ids[1:2]}
	hits := append(hits([2]int{0, 2}, [2]int{1, 1}, [2]int{1, 2}), fillHit)
	legs := []impl.Leg{legAt(1, 0), overAt(0, 7), fillLeg}
	h := impl.Hub{
		Tokens: impl.Tokens{Parents: []int{-1, 0, 9}[:2], Off: []bool{false, true, true}[:2]}, Clock: impl.Clock{Timers: []impl.Timer{{At: 4, Token: 1}, fillTimer}[:1]},
		Notes: []impl.Notify{note, note, {Ones: filler}}[:2], Events: []impl.Event{manualOne(false, ids[:2], ids[2:4]), autoOne(false, ids[:2], ids[2:4], 1, 0), {Sets: filler}}[:2],
		Latches: []impl.Latch{{Count: 2, Line: ids[:2], Grants: ids[2:4]}, {Count: 1, Line: ids[:2], Grants: ids[2:4]}, {Count: filler}}[:2],
		Cells:   []impl.Cell{openCell(num(1), 3, ids[:2], ids[2:4]), openCell(text("a"), 3, ids[:2], ids[2:4]), {Version: filler}}[:2],
		Topics:  topics(topic("a", ring), topic("b", ring), topic("c", ring), fillTopic)[:3], Merges: []impl.Merge{mergeInto(2, legs[:1]...), mergeInto(2, legs[:2]...), {Into: filler}}[:2],
		Users: slices.Repeat([]impl.User{{Subs: hits[:3], Seen: ids[:2]}}, 7)[:6],
	}
	if !impl.HubOk(h) {
		t.Fatal("not right")
	}
	before := cloneHub(wholeHub(h))
	for who := range 6 {
		for i, c := range callsAt(h, []int{0, 1}) {
			for j, got := range []hubAnswer{doOf(h, who, c), endOf(h, who, c), abortOf(h, who, c)} {
				want := []func(impl.Hub, int, impl.Call) hubAnswer{doBy, endBy, abortBy}[j](h, who, c)
				if !sameHub(got.h, want.h) || got.r != want.r {
					t.Fatal("answer", who, i, j, brief(got), brief(want))
				}
				if !spoilHub(got.h) {
					t.Fatal("two lists of the answer share memory", who, i, j, c)
				}
				if !sameHub(wholeHub(h), before) {
					t.Fatal("what was handed in has changed", who, i, j, c)
				}
			}
		}
	}
}

// TestHubsKeepNothing spoils what is answered and asks once more.
func TestHubsKeepNothing(t *testing.T) {
	for k, h := range append(wrongHubs(), handHub(), bareHub()) {
		for i, c := range callsAt(h, []int{0, 2}) {
			if hubIsRight(h) && i%5 != 0 || !hubIsRight(h) && (i+k)%41 != 0 {
				continue
			}
			ask := func() []hubAnswer {
				return []hubAnswer{doOf(h, i%6, c), endOf(h, i%6, c), abortOf(h, i%6, c)}
			}
			var kept []hubAnswer
			for _, a := range ask() {
				kept = append(kept, hubAnswer{h: cloneHub(a.h), r: a.r})
				spoilHub(a.h)
			}
			for j, a := range ask() {
				if !sameHub(a.h, kept[j].h) || a.r != kept[j].r {
					t.Fatal("another one the second time", i, j, c, brief(a))
				}
			}
		}
	}
}
