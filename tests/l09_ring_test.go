package tests

import (
	"fmt"
	"math"
	"slices"
	"strings"
	"testing"

	"loop.example/g00098/impl"
)

// sentAs is the message that has a number in the rings of these tests: numbers and texts by turns, so that each filter finds some.
func sentAs(number int) impl.Msg {
	switch number % 4 {
	case 0:
		return num(number % 97)
	case 1:
		return text(strings.Repeat("a", number%7+1))
	case 2:
		return num(-(number % 89))
	}
	return text("ba")
}

func sentFrom(from int, to int) []impl.Msg {
	var list []impl.Msg
	for n := from; n < to; n++ {
		list = append(list, sentAs(n))
	}
	return list
}

// reads is a Sub that has got, lost and passed by what is from start to cursor, about as many of each.
func reads(id int, start int, cursor int, f ...impl.Term) impl.Sub {
	third := (cursor - start) / 3
	return impl.Sub{Id: id, Start: start, Cursor: cursor, Got: third, Lost: third, Passed: cursor - start - 2*third, Filter: f}
}

func oldestIn(r impl.Ring) int {
	oldest := r.Sent
	for _, s := range r.Subs {
		if s.Cursor < oldest {
			oldest = s.Cursor
		}
	}
	if r.Sent-r.Cap > oldest {
		oldest = r.Sent - r.Cap
	}
	if oldest < 0 {
		oldest = 0
	}
	return oldest
}

// ringOf is an open ring that keeps what these Subs ask for; nobody waits there.
func ringOf(room int, sent int, subs ...impl.Sub) impl.Ring {
	r := impl.Ring{Cap: room, Sent: sent, Subs: subs}
	r.Items = sentFrom(oldestIn(r), sent)
	for _, s := range subs {
		r.Next = s.Id + 1
	}
	return r
}

func waitedFor(r impl.Ring, line []int, grants []int) impl.Ring {
	r.Line, r.Grants = line, grants
	return r
}

func closedRing(r impl.Ring) impl.Ring {
	r.Closed = true
	return r
}

func cloneSubs(subs []impl.Sub) []impl.Sub {
	list := slices.Clone(subs)
	for i := range list {
		list[i].Filter = slices.Clone(list[i].Filter)
	}
	return list
}

func cloneRing(r impl.Ring) impl.Ring {
	r.Items, r.Subs = slices.Clone(r.Items), cloneSubs(r.Subs)
	r.Line, r.Grants = slices.Clone(r.Line), slices.Clone(r.Grants)
	return r
}

func sameSub(a impl.Sub, b impl.Sub) bool {
	f, g := a.Filter, b.Filter
	return a.Id == b.Id && a.Start == b.Start && a.Cursor == b.Cursor && a.Got == b.Got && a.Lost == b.Lost && a.Passed == b.Passed && slices.Equal(f, g)
}

func sameRing(a impl.Ring, b impl.Ring) bool {
	if a.Cap != b.Cap || a.Sent != b.Sent || a.Next != b.Next || a.Closed != b.Closed {
		return false
	}
	return slices.Equal(a.Items, b.Items) && slices.EqualFunc(a.Subs, b.Subs, sameSub) && slices.Equal(a.Line, b.Line) && slices.Equal(a.Grants, b.Grants)
}

// subIsRight leaves nothing to a sum that may wrap round: what is left of the way is taken off step by step.
func subIsRight(s impl.Sub, sent int) bool {
	if s.Start < 0 || s.Start > s.Cursor || s.Cursor > sent || !filterIsRight(s.Filter) {
		return false
	}
	left := s.Cursor - s.Start
	for _, n := range []int{s.Got, s.Lost, s.Passed} {
		if n < 0 || n > left {
			return false
		}
		left -= n
	}
	return left == 0
}

func ringIsRight(r impl.Ring) bool {
	if r.Cap < 1 || r.Cap > 16 || r.Sent < 0 || r.Sent > most || r.Next < 0 || r.Next > most || len(r.Subs) > 12 {
		return false
	}
	cursors := map[int]int{}
	for i, s := range r.Subs {
		if s.Id < 0 || s.Id >= r.Next || i > 0 && s.Id <= r.Subs[i-1].Id || !subIsRight(s, r.Sent) {
			return false
		}
		cursors[s.Id] = s.Cursor
	}
	if oldestIn(r)+len(r.Items) != r.Sent || slices.ContainsFunc(r.Items, func(m impl.Msg) bool { return !msgIsRight(m) }) {
		return false
	}
	for _, id := range r.Line {
		if cursor, there := cursors[id]; !there || cursor != r.Sent || r.Closed {
			return false
		}
		// Gone from the map, it is wrong to be found once more.
		delete(cursors, id)
	}
	for _, id := range r.Grants {
		if _, there := cursors[id]; !there {
			return false
		}
		delete(cursors, id)
	}
	return true
}

var (
	fillMsg = impl.Msg{Kind: filler, Num: filler, Text: "filler"}
	fillSub = impl.Sub{Id: filler, Start: filler, Cursor: filler}
)

// roomyRing is a copy with spare room behind each of its lists.
func roomyRing(r impl.Ring) impl.Ring {
	r.Items, r.Line, r.Grants = roomyWith(r.Items, fillMsg), roomy(r.Line), roomy(r.Grants)
	subs := append(cloneSubs(r.Subs), fillSub, fillSub)[:len(r.Subs)]
	for i := range subs {
		subs[i].Filter = append(slices.Clone(subs[i].Filter), fillTerm, fillTerm)[:len(subs[i].Filter)]
	}
	r.Subs = subs
	return r
}

// wholeRing is a copy in which the room behind each list is a part of it.
func wholeRing(r impl.Ring) impl.Ring {
	r.Items, r.Line, r.Grants = r.Items[:cap(r.Items)], r.Line[:cap(r.Line)], r.Grants[:cap(r.Grants)]
	r.Subs = slices.Clone(r.Subs[:cap(r.Subs)])
	for i, s := range r.Subs {
		r.Subs[i].Filter = s.Filter[:cap(s.Filter)]
	}
	return cloneRing(r)
}

// placesOf is where a number can be laid into the lists of an answer, and into the room behind them.
func placesOf(r impl.Ring, told []int) []*int {
	var places []*int
	for i := range r.Items[:cap(r.Items)] {
		places = append(places, &r.Items[:cap(r.Items)][i].Num)
	}
	subs := r.Subs[:cap(r.Subs)]
	for i := range subs {
		places = append(places, &subs[i].Id)
		f := subs[i].Filter[:cap(subs[i].Filter)]
		for j := range f {
			places = append(places, &f[j].Num)
		}
	}
	for _, list := range [][]int{r.Line, r.Grants, told} {
		room := list[:cap(list)]
		for i := range room {
			places = append(places, &room[i])
		}
	}
	return places
}

// ringGiven is what was handed in, and how it was ahead of the call.
type ringGiven struct {
	r      impl.Ring
	before impl.Ring
	f      []impl.Term
}

func giveRing(r impl.Ring, f []impl.Term) ringGiven {
	g := ringGiven{r: roomyRing(r), f: roomyWith(f, fillTerm)}
	g.before = wholeRing(g.r)
	return g
}

// checkKept looks at all that was handed in, f being what the filter was made of.
func (g ringGiven) checkKept(t *testing.T, what string, f []impl.Term) {
	t.Helper()
	if !sameRing(wholeRing(g.r), g.before) || !roomKeptWith(g.f, f, fillTerm) {
		t.Fatalf("%s: what was handed in has changed: %s", what, brief(g.before))
	}
}

// ringAnswer has what any function of rings and of readers answers that answers a ring; what one does not answer is left empty.
type ringAnswer struct {
	r     impl.Ring
	list  []int
	id    int
	x     impl.Told
	tells []impl.Told
	code  int
}

// brief cuts what is told of a fault: some of the wrong rings are very long.
func brief(x any) string {
	s := fmt.Sprintf("%+v", x)
	if len(s) > 2000 {
		return s[:2000] + " .."
	}
	return s
}

func sameAnswer(a ringAnswer, b ringAnswer) bool {
	return sameRing(a.r, b.r) && slices.Equal(a.list, b.list) && a.id == b.id && a.x == b.x && slices.Equal(a.tells, b.tells) && a.code == b.code
}

// checkApartFrom lays numbers into all places of an answer: where one is shared with what was handed in, that has changed.
func (g ringGiven) checkApartFrom(t *testing.T, what string, got ringAnswer, f []impl.Term) {
	t.Helper()
	if !lieApart(placesOf(got.r, got.list)) {
		t.Fatalf("%s: two lists of the answer share memory: %s", what, brief(g.before))
	}
	g.checkKept(t, what, f)
}

// checkRingAnswer holds an answer against the one that is wanted, and looks at the memory. It ends the test, as a fault would be told very often.
func checkRingAnswer(t *testing.T, what string, g ringGiven, f []impl.Term, got ringAnswer, want ringAnswer) {
	t.Helper()
	if !sameAnswer(got, want) {
		t.Fatalf("%s of %s\n= %s\nwant %s", what, brief(g.r), brief(got), brief(want))
	}
	g.checkKept(t, what, f)
	g.checkApartFrom(t, what, got, f)
}

func checkRingOk(t *testing.T, r impl.Ring) {
	t.Helper()
	g := giveRing(r, nil)
	if ok := impl.RingOk(g.r); ok != ringIsRight(r) {
		t.Fatalf("RingOk(%s) = %v", brief(r), ok)
	}
	g.checkKept(t, "RingOk", nil)
}

// trim lets those Items go that are ahead of the oldest.
func trim(r *impl.Ring) {
	r.Items = r.Items[len(r.Items)-(r.Sent-oldestIn(*r)):]
}

func subPlace(r impl.Ring, id int) int {
	return slices.IndexFunc(r.Subs, func(s impl.Sub) bool { return s.Id == id })
}

func sendBy(r impl.Ring, m impl.Msg) ringAnswer {
	want := ringAnswer{r: cloneRing(r)}
	switch {
	case !ringIsRight(r):
		want.code = impl.Bad
	case r.Closed:
		want.code = impl.Over
	case !msgIsRight(m):
		want.code = impl.Bad
	case r.Sent == most:
		want.code = impl.Full
	default:
		want.r.Items, want.r.Sent, want.r.Line = append(want.r.Items, m), r.Sent+1, nil
		for _, id := range r.Line {
			s := &want.r.Subs[subPlace(r, id)]
			if lets(s.Filter, m) {
				want.list = append(want.list, id)
				continue
			}
			s.Cursor, s.Passed = s.Cursor+1, s.Passed+1
			want.r.Line = append(want.r.Line, id)
		}
		want.r.Grants = append(want.r.Grants, want.list...)
		trim(&want.r)
	}
	return want
}

func checkSend(t *testing.T, r impl.Ring, m impl.Msg) {
	t.Helper()
	want := sendBy(r, m)
	g := giveRing(r, nil)
	var got ringAnswer
	got.r, got.list, got.code = impl.Send(g.r, m)
	checkRingAnswer(t, fmt.Sprintf("Send of %+v", m), g, nil, got, want)
}

func checkSubscribe(t *testing.T, r impl.Ring, f []impl.Term, back bool) {
	t.Helper()
	want := ringAnswer{r: cloneRing(r), id: -1}
	switch {
	case !ringIsRight(r), !filterIsRight(f):
		want.code = impl.Bad
	case r.Closed:
		want.code = impl.Over
	case len(r.Subs) == 12, r.Next == most:
		want.code = impl.Full
	default:
		start := r.Sent
		if back {
			start -= len(r.Items)
		}
		want.id, want.r.Next = r.Next, r.Next+1
		want.r.Subs = append(want.r.Subs, impl.Sub{Id: r.Next, Start: start, Cursor: start, Filter: f})
	}
	g := giveRing(r, f)
	var got ringAnswer
	got.r, got.id, got.code = impl.Subscribe(g.r, g.f, back)
	checkRingAnswer(t, fmt.Sprintf("Subscribe with %+v, %v", f, back), g, f, got, want)
}

func checkUnsubscribe(t *testing.T, r impl.Ring, id int) {
	t.Helper()
	want := ringAnswer{r: cloneRing(r)}
	switch {
	case !ringIsRight(r):
		want.code = impl.Bad
	case subPlace(r, id) < 0:
		want.code = impl.None
	default:
		want.r.Subs = slices.DeleteFunc(want.r.Subs, func(s impl.Sub) bool { return s.Id == id })
		want.r.Line, want.r.Grants = without(r.Line, id), without(r.Grants, id)
		trim(&want.r)
	}
	g := giveRing(r, nil)
	var got ringAnswer
	got.r, got.code = impl.Unsubscribe(g.r, id)
	checkRingAnswer(t, fmt.Sprint("Unsubscribe of ", id), g, nil, got, want)
}

// readBy is asked of one in neither list of a right ring.
func readBy(r *impl.Ring, id int) (impl.Told, int) {
	defer trim(r)
	s := &r.Subs[subPlace(*r, id)]
	if gone := r.Sent - r.Cap - s.Cursor; gone > 0 {
		s.Cursor, s.Lost = s.Cursor+gone, s.Lost+gone
		return impl.Told{Kind: 2, N: gone}, impl.Done
	}
	rest := r.Items[len(r.Items)-(r.Sent-s.Cursor):]
	first := slices.IndexFunc(rest, func(m impl.Msg) bool { return lets(s.Filter, m) })
	if first >= 0 {
		number := s.Cursor + first
		s.Cursor, s.Passed, s.Got = number+1, s.Passed+first, s.Got+1
		return impl.Told{Kind: 1, Msg: rest[first], Index: number}, impl.Done
	}
	s.Cursor, s.Passed = r.Sent, s.Passed+len(rest)
	if r.Closed {
		return impl.Told{}, impl.Over
	}
	r.Line = append(r.Line, id)
	return impl.Told{}, impl.Waits
}

func checkReceive(t *testing.T, r impl.Ring, id int) {
	t.Helper()
	want := ringAnswer{r: cloneRing(r)}
	switch {
	case !ringIsRight(r):
		want.code = impl.Bad
	case subPlace(r, id) < 0:
		want.code = impl.None
	case slices.Contains(r.Line, id), slices.Contains(r.Grants, id):
		want.code = impl.There
	default:
		want.x, want.code = readBy(&want.r, id)
	}
	g := giveRing(r, nil)
	var got ringAnswer
	got.r, got.x, got.code = impl.Receive(g.r, id)
	checkRingAnswer(t, fmt.Sprint("Receive by ", id), g, nil, got, want)
}

func checkProceed(t *testing.T, r impl.Ring, id int) {
	t.Helper()
	want := ringAnswer{r: cloneRing(r)}
	switch {
	case !ringIsRight(r):
		want.code = impl.Bad
	case slices.Contains(r.Line, id):
		want.code = impl.Waits
	case !slices.Contains(r.Grants, id):
		want.code = impl.None
	default:
		want.r.Grants = without(r.Grants, id)
		want.x, want.code = readBy(&want.r, id)
	}
	g := giveRing(r, nil)
	var got ringAnswer
	got.r, got.x, got.code = impl.Proceed(g.r, id)
	checkRingAnswer(t, fmt.Sprint("Proceed by ", id), g, nil, got, want)
}

func checkUnwait(t *testing.T, r impl.Ring, id int) {
	t.Helper()
	want := ringAnswer{r: cloneRing(r)}
	switch {
	case !ringIsRight(r):
		want.code = impl.Bad
	case !slices.Contains(r.Line, id) && !slices.Contains(r.Grants, id):
		want.code = impl.None
	default:
		want.r.Line, want.r.Grants = without(r.Line, id), without(r.Grants, id)
	}
	g := giveRing(r, nil)
	var got ringAnswer
	got.r, got.code = impl.Unwait(g.r, id)
	checkRingAnswer(t, fmt.Sprint("Unwait by ", id), g, nil, got, want)
}

func checkCloseRing(t *testing.T, r impl.Ring) {
	t.Helper()
	want := ringAnswer{r: cloneRing(r)}
	switch {
	case !ringIsRight(r):
		want.code = impl.Bad
	case r.Closed:
		want.code = impl.Over
	default:
		want.list, want.r.Closed = r.Line, true
		want.r.Line, want.r.Grants = nil, append(want.r.Grants, r.Line...)
	}
	g := giveRing(r, nil)
	var got ringAnswer
	got.r, got.list, got.code = impl.CloseRing(g.r)
	checkRingAnswer(t, "CloseRing", g, nil, got, want)
}

// checkRing asks every function of rings but NewRing at r.
func checkRing(t *testing.T, r impl.Ring, ids []int, msgs []impl.Msg, filters [][]impl.Term) {
	t.Helper()
	checkRingOk(t, r)
	checkCloseRing(t, r)
	for _, m := range msgs {
		checkSend(t, r, m)
	}
	for _, f := range filters {
		checkSubscribe(t, r, f, false)
		checkSubscribe(t, r, f, true)
	}
	for _, id := range ids {
		checkUnsubscribe(t, r, id)
		checkReceive(t, r, id)
		checkProceed(t, r, id)
		checkUnwait(t, r, id)
	}
}

// idsAround are those that a ring speaks of, and those beside them.
func idsAround(r impl.Ring) []int {
	list := []int{math.MinInt, -1, 0, most, math.MaxInt, r.Next}
	for _, s := range r.Subs[:min(len(r.Subs), 14)] {
		list = append(list, s.Id-1, s.Id, s.Id+1)
	}
	for _, ids := range [][]int{r.Line, r.Grants} {
		list = append(list, ids[:min(len(ids), 14)]...)
	}
	slices.Sort(list)
	return slices.Compact(list)
}

// someSends has messages of each kind, at their edges, and some that are none.
func someSends() []impl.Msg {
	return []impl.Msg{num(4), num(-3), text("ab"), text("ba"), text(""), num(impl.MaxNum), {}, num(impl.MaxNum + 1), text("\""), {Kind: 1, Text: "1"}}
}

// subFilters let pass all, some, and nothing.
func subFilters() [][]impl.Term {
	return [][]impl.Term{nil, allOf(bare(2)), allOf(bare(3)), allOf(dividedBy(2)), allOf(starts("a")), allOf(bare(1), bare(8)), allOf(below(0), holds("b"), bare(10)), nots(11)}
}

// standings are ways to wait at a right ring with nobody in its lists: nobody; all in Line that can be, and the others in Grants; all in Grants; one of each.
func standings(r impl.Ring) []impl.Ring {
	var atEnd, all, behind []int
	for _, s := range r.Subs {
		all = append(all, s.Id)
		if s.Cursor == r.Sent {
			atEnd = append(atEnd, s.Id)
		} else {
			behind = append(behind, s.Id)
		}
	}
	slices.Reverse(atEnd)
	list := []impl.Ring{r, closedRing(r), waitedFor(r, atEnd, behind), waitedFor(r, nil, all), closedRing(waitedFor(r, nil, all))}
	if len(atEnd) > 0 {
		list = append(list, waitedFor(r, atEnd[:1], atEnd[1:]), waitedFor(r, atEnd[1:], behind[:len(behind)/2]))
	}
	return list
}

// subsBehind are Subs that are so far behind Sent (at 0, where that is further), their Ids rising by step, with filters by turns.
func subsBehind(sent int, step int, far ...int) []impl.Sub {
	filters := subFilters()
	var list []impl.Sub
	for i, n := range far {
		cursor := max(sent-n, 0)
		list = append(list, reads(i*step, max(cursor-i*4, 0), cursor, filters[(i+sent+step)%len(filters)]...))
	}
	return list
}

// rightRings have Caps, Sents and Nexts at their edges, Subs from none to as many as there can be, and all three reasons for the oldest.
func rightRings() []impl.Ring {
	var list []impl.Ring
	for _, room := range []int{1, 2, 5, 15, 16} {
		for _, sent := range []int{0, 1, 2, 5, 15, 16, 17, 18, 34, 100, most - 1, most} {
			for i, far := range [][]int{{}, {0}, {1}, {room}, {room + 1, 0}, {0, 1, 0}, {sent, 3, 0}, {room - 1, room, 2, 0, 0}} {
				r := ringOf(room, sent, subsBehind(sent, i+1, far...)...)
				if i%2 == 1 {
					r.Next += i
				}
				list = append(list, standings(r)...)
			}
		}
	}
	for _, sent := range []int{0, 3, 40, most} {
		full := ringOf(6, sent, subsBehind(sent, 90000000, 0, 1, 2, 3, 0, 4, 5, 6, 7, 0, 60, 0)...)
		list = append(list, standings(full)...)
		one := ringOf(6, sent, subsBehind(sent, 999999999/11, 0, 1, 0, 30, 0, 0, 9, 0, 0, 0, 2)...)
		list = append(list, standings(one)...)
		last := ringOf(6, sent, reads(5, 0, sent/2), reads(999999999, sent, sent, bare(2)))
		list = append(list, standings(last)...)
	}
	empty := impl.Ring{Cap: 1, Items: []impl.Msg{}, Subs: []impl.Sub{}, Line: []int{}, Grants: []int{}}
	return append(list, empty, closedRing(empty), impl.Ring{Cap: 16, Sent: most, Next: most}, impl.Ring{Cap: 3, Next: 7})
}

func TestRingConstants(t *testing.T) {
	if impl.MaxCap != 16 || impl.MaxSubs != 12 || impl.MaxSent != 1000000000 || impl.RGot != 1 || impl.RLost != 2 {
		t.Error("constants", impl.MaxCap, impl.MaxSubs, impl.MaxSent, impl.RGot, impl.RLost)
	}
}

func TestNewRing(t *testing.T) {
	for room := -3; room < 40; room++ {
		r, code := impl.NewRing(room)
		if right := room >= 1 && room <= 16; right && (code != impl.Done || !sameRing(r, impl.Ring{Cap: room}) || !impl.RingOk(r)) {
			t.Error("not made", room, r, code)
		} else if !right && (code != impl.Bad || !sameRing(r, impl.Ring{}) || impl.RingOk(r)) {
			t.Error("made", room, r, code)
		}
	}
	for _, room := range []int{math.MinInt, -1 << 32, 1<<32 + 1, 256 + 1, math.MaxInt} {
		if r, code := impl.NewRing(room); code != impl.Bad || !sameRing(r, impl.Ring{}) {
			t.Error("made", room, r, code)
		}
	}
}

func TestRightRings(t *testing.T) {
	for _, r := range rightRings() {
		if !impl.RingOk(r) {
			t.Fatalf("not right: %+v", r)
		}
	}
}

func TestRingsAtTheirEdges(t *testing.T) {
	filters := [][]impl.Term{nil, {}, nots(12), nots(13), allOf(bare(0)), allOf(dividedBy(3), bare(8))}
	for _, r := range rightRings() {
		checkRing(t, r, idsAround(r), someSends(), filters)
	}
}

// ringFaults makes rings that are wrong for one reason each out of a right one that has three Subs at least: the first is neither at its Start nor at Sent, the second is at Sent, and nobody waits; it keeps two at least.
func ringFaults(r impl.Ring) []impl.Ring {
	var list []impl.Ring
	fault := func(change func(r *impl.Ring)) {
		x := cloneRing(r)
		change(&x)
		list = append(list, x)
	}
	for _, n := range []int{math.MinInt, -1, 0, 17, 18, math.MaxInt} {
		fault(func(r *impl.Ring) { r.Cap = n })
	}
	for _, n := range []int{math.MinInt, -1, most + 1, math.MaxInt} {
		fault(func(r *impl.Ring) { r.Sent = n })
		fault(func(r *impl.Ring) { r.Next = n })
	}
	fault(func(r *impl.Ring) { r.Next = 0 })
	fault(func(r *impl.Ring) { r.Items = r.Items[1:] })
	fault(func(r *impl.Ring) { r.Items = r.Items[:len(r.Items)-1] })
	fault(func(r *impl.Ring) { r.Items = nil })
	fault(func(r *impl.Ring) { r.Items = append(r.Items, num(1)) })
	fault(func(r *impl.Ring) { r.Items = append([]impl.Msg{num(1)}, r.Items...) })
	for i, m := range wrongMsgs() {
		fault(func(r *impl.Ring) { r.Items[i%len(r.Items)] = m })
	}
	last := len(r.Subs) - 1
	fault(func(r *impl.Ring) { r.Subs[0].Id = -1 })
	fault(func(r *impl.Ring) { r.Subs[0].Id = math.MinInt })
	fault(func(r *impl.Ring) { r.Subs[last].Id = r.Next })
	fault(func(r *impl.Ring) { r.Subs[last].Id = math.MaxInt })
	fault(func(r *impl.Ring) { r.Next = r.Subs[last].Id })
	fault(func(r *impl.Ring) { r.Subs[1].Id = r.Subs[0].Id })
	fault(func(r *impl.Ring) { r.Subs[2].Id = r.Subs[1].Id })
	fault(func(r *impl.Ring) { r.Subs[0].Id, r.Subs[1].Id = r.Subs[1].Id, r.Subs[0].Id })
	fault(func(r *impl.Ring) { r.Subs[0], r.Subs[last] = r.Subs[last], r.Subs[0] })
	for len(r.Subs) < 12 {
		r.Subs = append(r.Subs, reads(r.Next, r.Sent, r.Sent))
		r.Next++
	}
	fault(func(r *impl.Ring) {
		r.Subs = append(r.Subs, reads(r.Next, r.Sent, r.Sent))
		r.Next++
	})
	return append(list, append(subFaults(r), waiterFaults(r)...)...)
}

// subFaults makes one Sub wrong each.
func subFaults(r impl.Ring) []impl.Ring {
	var list []impl.Ring
	fault := func(at int, change func(s *impl.Sub)) {
		x := cloneRing(r)
		change(&x.Subs[at])
		list = append(list, x)
	}
	fault(0, func(s *impl.Sub) { s.Start-- })
	fault(0, func(s *impl.Sub) { s.Start++ })
	fault(0, func(s *impl.Sub) { s.Start, s.Got = -1, s.Got+s.Start+1 })
	fault(0, func(s *impl.Sub) { s.Start, s.Got, s.Lost, s.Passed = s.Cursor+1, 0, 0, 0 })
	fault(0, func(s *impl.Sub) { s.Start, s.Got, s.Lost, s.Passed = s.Cursor+1, -1, 0, 0 })
	fault(0, func(s *impl.Sub) { s.Start, s.Cursor = s.Cursor, s.Start })
	fault(1, func(s *impl.Sub) { s.Cursor, s.Got = s.Cursor+1, s.Got+1 })
	fault(1, func(s *impl.Sub) { s.Start, s.Cursor = s.Start+1, s.Cursor+1 })
	fault(1, func(s *impl.Sub) { s.Cursor = math.MaxInt })
	fault(1, func(s *impl.Sub) { s.Start = math.MinInt })
	for _, n := range []int{-1, 1, -2, math.MinInt, math.MaxInt} {
		fault(0, func(s *impl.Sub) { s.Got += n })
		fault(0, func(s *impl.Sub) { s.Lost += n })
		fault(0, func(s *impl.Sub) { s.Passed += n })
	}
	fault(0, func(s *impl.Sub) { s.Got, s.Lost = -1, s.Got+s.Lost+1 })
	fault(0, func(s *impl.Sub) { s.Lost, s.Passed = -1, s.Lost+s.Passed+1 })
	fault(0, func(s *impl.Sub) { s.Got, s.Passed = s.Got+s.Passed+1, -1 })
	// Each of these three comes to the right sum by wrapping round.
	fault(0, func(s *impl.Sub) { s.Got, s.Lost, s.Passed = math.MaxInt, math.MaxInt, s.Cursor-s.Start+2 })
	fault(0, func(s *impl.Sub) { s.Got, s.Lost, s.Passed = s.Cursor-s.Start+2, math.MaxInt, math.MaxInt })
	fault(0, func(s *impl.Sub) { s.Got, s.Lost, s.Passed = math.MaxInt, s.Cursor-s.Start+2, math.MaxInt })
	for i, f := range wrongFilters() {
		fault(i%3, func(s *impl.Sub) { s.Filter = f })
	}
	return list
}

// waiterFaults makes Line or Grants wrong; the first Sub is not at Sent, the second and the last are.
func waiterFaults(r impl.Ring) []impl.Ring {
	first, second, last := r.Subs[0].Id, r.Subs[1].Id, r.Subs[len(r.Subs)-1].Id
	var list []impl.Ring
	for _, none := range []int{-1, r.Next, math.MinInt, math.MaxInt, second - 1} {
		if subPlace(r, none) < 0 {
			list = append(list, waitedFor(r, []int{none}, nil), waitedFor(r, nil, []int{none}), waitedFor(r, []int{second, none}, nil), waitedFor(r, []int{second}, []int{first, none}))
		}
	}
	list = append(list, waitedFor(r, []int{second, second}, nil), waitedFor(r, nil, []int{second, second}), waitedFor(r, []int{second}, []int{second}), waitedFor(r, []int{second, last}, []int{first, last}), waitedFor(r, []int{last, second, last}, nil), waitedFor(r, nil, []int{first, last, first}))
	list = append(list, waitedFor(r, []int{first}, nil), waitedFor(r, []int{second, first}, nil), waitedFor(r, []int{first, second}, []int{last}))
	list = append(list, closedRing(waitedFor(r, []int{second}, nil)), closedRing(waitedFor(r, []int{second, last}, []int{first})), closedRing(waitedFor(r, []int{first}, nil)))
	return append(list, waitedFor(r, slices.Repeat([]int{second}, 100000), nil), waitedFor(r, nil, slices.Repeat([]int{first}, 100000)))
}

// faultBases are right rings as ringFaults asks for them, the oldest being there for each of its reasons.
func faultBases() []impl.Ring {
	return []impl.Ring{
		ringOf(5, 9, reads(0, 2, 6), reads(1, 0, 9), reads(2, 9, 9)),
		ringOf(3, 9, reads(4, 1, 6, bare(2)), reads(60, 0, 9, bare(3)), reads(61, 9, 9, bare(1))),
		ringOf(4, 70, reads(4, 1, 6), reads(600, 0, 70, nots(12)...), reads(999999998, 30, 70)),
		ringOf(16, 9, reads(1, 0, 3), reads(3, 5, 9), reads(5, 0, 9)),
		ringOf(16, 9, reads(1, 0, 3), reads(3, 5, 9), reads(5, 0, 0), reads(6, 9, 9)),
		ringOf(2, most, reads(1, 0, most-2), reads(3, 0, most), reads(5, most, most)),
	}
}

// wrongRings are not RingOk, each for a reason of its own, some for several; all of them open and closed.
func wrongRings() []impl.Ring {
	list := []impl.Ring{{}, {Sent: 5}, {Cap: 3, Sent: 2, Items: sentFrom(0, 2)}, {Cap: -1, Sent: -1, Next: -1, Items: wrongMsgs(), Subs: []impl.Sub{fillSub, fillSub}, Line: []int{1, 1}, Grants: []int{1, -1}}}
	for _, r := range faultBases() {
		list = append(list, ringFaults(r)...)
	}
	great := ringOf(5, 9, reads(0, 2, 6), reads(1, 0, 9))
	list = append(list, func() impl.Ring { r := great; r.Items = slices.Repeat(r.Items, 50000); return r }())
	list = append(list, func() impl.Ring { r := great; r.Subs = slices.Repeat(r.Subs, 50000); return r }())
	for _, r := range slices.Clone(list) {
		list = append(list, closedRing(r))
	}
	return list
}

// TestWrongRings has its answers written out: the ring handed back, beside it nothing, and Bad.
func TestWrongRings(t *testing.T) {
	for _, r := range wrongRings() {
		if impl.RingOk(r) {
			t.Fatal("right", brief(r))
		}
		for i, a := range ringAnswers(r, 1) {
			want := ringAnswer{r: r, code: impl.Bad}
			if i == 1 || i == 2 {
				want.id = -1
			}
			if !sameAnswer(a, want) {
				t.Fatal("answer", i, brief(r), brief(a))
			}
		}
	}
}

func ringAnswers(r impl.Ring, id int) []ringAnswer {
	var sends, subscribes, goesBack, leaves, receives, proceeds, quits, closes ringAnswer
	sends.r, sends.list, sends.code = impl.Send(r, num(5))
	subscribes.r, subscribes.id, subscribes.code = impl.Subscribe(r, nil, false)
	goesBack.r, goesBack.id, goesBack.code = impl.Subscribe(r, allOf(bare(2)), true)
	leaves.r, leaves.code = impl.Unsubscribe(r, id)
	receives.r, receives.x, receives.code = impl.Receive(r, id)
	proceeds.r, proceeds.x, proceeds.code = impl.Proceed(r, id)
	quits.r, quits.code = impl.Unwait(r, id)
	closes.r, closes.list, closes.code = impl.CloseRing(r)
	return []ringAnswer{sends, subscribes, goesBack, leaves, receives, proceeds, quits, closes}
}

// TestWrongRingsAndTheRest has them with ids, messages and filters that are right and wrong.
func TestWrongRingsAndTheRest(t *testing.T) {
	for _, r := range wrongRings() {
		ids := []int{-1, 0, 1}
		if len(r.Items)+len(r.Subs)+len(r.Line)+len(r.Grants) > 1000 {
			ids = ids[1:2]
		}
		checkRing(t, r, ids, []impl.Msg{num(4), {}}, [][]impl.Term{nil, allOf(bare(0))})
	}
}

// TestEverySubAtItsEdges goes through all small numbers of one Sub, right and wrong, beside one that is right.
func TestEverySubAtItsEdges(t *testing.T) {
	right := 0
	for sent := range 4 {
		for at := range 6 * 6 * 5 * 5 * 5 {
			s := impl.Sub{Id: 3, Start: at%6 - 1, Cursor: at/6%6 - 1, Got: at/36%5 - 1, Lost: at/180%5 - 1, Passed: at/900 - 1}
			for _, room := range []int{1, 2, 16} {
				r := impl.Ring{Cap: room, Sent: sent, Next: 4, Subs: []impl.Sub{s}}
				r.Items = sentFrom(oldestIn(r), sent)
				if impl.RingOk(r) != ringIsRight(r) {
					t.Fatalf("RingOk(%+v)", r)
				}
				if ringIsRight(r) {
					right++
					checkReceive(t, r, 3)
				}
			}
		}
	}
	// Of a way of n there are (n+1)(n+2)/2 ways to part it in three; of a ring up to k there are k+1-n such ways for a Sub.
	if right != 3*(1+(2+3)+(3+2*3+6)+(4+3*3+2*6+10)) {
		t.Error("how many are right", right)
	}
}

// TestEveryFewAtARing goes through all of up to three in Line and up to two in Grants, of Ids that there are and that there are not.
func TestEveryFewAtARing(t *testing.T) {
	ids := []int{-1, 0, 1, 2, 5, 6}
	base := ringOf(2, 7, reads(0, 0, 7, bare(2)), reads(1, 3, 6), reads(5, 7, 7))
	eachList(ids, 3, func(line []int) {
		eachList(ids, 2, func(grants []int) {
			r := waitedFor(base, line, grants)
			if ok := impl.RingOk(r); ok != ringIsRight(r) || impl.RingOk(closedRing(r)) != (ok && len(line) == 0) {
				t.Fatalf("RingOk(%+v)", r)
			}
			if len(line) < 3 {
				checkRing(t, r, ids, []impl.Msg{num(1), text("a")}, [][]impl.Term{nil})
				checkRing(t, closedRing(r), ids, []impl.Msg{num(1)}, [][]impl.Term{nil})
			}
		})
	})
}

// TestEveryRightFewAtARing has four Subs, of which each can be in Line, in Grants, or in neither, in each order.
func TestEveryRightFewAtARing(t *testing.T) {
	base := ringOf(3, 8, reads(2, 0, 8, bare(2)), reads(3, 1, 8, bare(3)), reads(7, 2, 4), reads(70, 8, 8))
	ids := []int{2, 3, 7, 70}
	eachList(ids, 4, func(line []int) {
		if !ringIsRight(waitedFor(base, line, nil)) {
			return
		}
		eachList(ids, 4-len(line), func(grants []int) {
			for _, r := range []impl.Ring{waitedFor(base, line, grants), closedRing(waitedFor(base, line, grants))} {
				if ringIsRight(r) {
					checkRing(t, r, ids, []impl.Msg{num(1), text("a")}, [][]impl.Term{nil})
				}
			}
		})
	})
}

// TestEachRoomAndEachLag has each Cap, and one Sub at each number from far below Sent - Cap up to Sent, the array's turn at each place.
func TestEachRoomAndEachLag(t *testing.T) {
	for room := 1; room <= 16; room++ {
		for sent := range 56 {
			for cursor := max(sent-room-3, 0); cursor <= sent; cursor++ {
				for _, f := range [][]impl.Term{nil, allOf(bare(2)), allOf(starts("aaa")), allOf(bare(1), bare(8))} {
					r := ringOf(room, sent, reads(0, cursor/2, cursor, f...), reads(9, 0, sent))
					checkReceive(t, r, 0)
					checkReceive(t, closedRing(r), 0)
					checkSend(t, r, num(sent))
					checkUnsubscribe(t, r, 0)
					checkProceed(t, waitedFor(r, nil, []int{9, 0}), 0)
				}
			}
		}
	}
}

// TestRingListsOfOneArray hands in lists that lie side by side and Subs that have one Filter in common: what is added to the one must not spoil the other, and no two of the answer may share it.
func TestRingListsOfOneArray(t *testing.T) {
	ids := []int{1, 4, 6, 0, 5, 9, 9, 9}
	terms := allOf(bare(2), bare(1), bare(9), bare(3), fillTerm)
	msgs := append(sentFrom(4, 9), fillMsg, fillMsg)
	subs := []impl.Sub{reads(0, 2, 6, terms[:3]...), reads(1, 0, 9, terms[:3]...), reads(4, 9, 9, terms[3:4]...), reads(5, 1, 6, terms[3:4]...), reads(6, 3, 9, terms[:3]...), fillSub, fillSub}
	subs[0].Filter, subs[1].Filter, subs[4].Filter = terms[:3], terms[:3], terms[:3]
	subs[2].Filter, subs[3].Filter = terms[3:4], terms[3:4]
	r := impl.Ring{Cap: 3, Sent: 9, Items: msgs[2:5], Next: 7, Subs: subs[:5], Line: ids[:3], Grants: ids[3:5]}
	kept := wholeRing(r)
	keptIds, keptTerms, keptMsgs := slices.Clone(ids), slices.Clone(terms), slices.Clone(msgs)
	for _, given := range []impl.Ring{r, waitedFor(r, ids[:1], ids[1:2]), closedRing(waitedFor(r, nil, ids[3:5]))} {
		for _, id := range []int{0, 1, 4, 5, 6, 7} {
			for i, a := range ringAnswers(given, id) {
				want := ringAnswers(cloneRing(given), id)[i]
				if !sameAnswer(a, want) {
					t.Fatal("answer", i, id, a, want)
				}
				if !lieApart(placesOf(a.r, a.list)) {
					t.Fatal("two lists of the answer share memory", i, id)
				}
				if !sameRing(wholeRing(r), kept) || !slices.Equal(ids, keptIds) || !slices.Equal(terms, keptTerms) || !slices.Equal(msgs, keptMsgs) {
					t.Fatal("what was handed in has changed", i, id)
				}
			}
		}
	}
	// The new Sub's Filter is the one that others have already.
	with, _, code := impl.Subscribe(r, terms[:3], true)
	if !lieApart(placesOf(with, nil)) || code != impl.Done || !slices.Equal(terms, keptTerms) {
		t.Error("subscribe", with, code, terms)
	}
}

// TestRingsKeepNothing spoils what is answered and asks once more.
func TestRingsKeepNothing(t *testing.T) {
	for i, r := range append(rightRings(), faultBases()...) {
		if i%7 != 0 {
			continue
		}
		for _, id := range idsAround(r) {
			var kept []ringAnswer
			for _, a := range ringAnswers(r, id) {
				b := a
				b.r, b.list = cloneRing(a.r), slices.Clone(a.list)
				kept = append(kept, b)
				for _, p := range placesOf(a.r, a.list) {
					*p += 1000003
				}
			}
			for j, a := range ringAnswers(r, id) {
				if !sameAnswer(a, kept[j]) {
					t.Fatal("another one the second time", r, id, j, a)
				}
			}
		}
	}
}
