package tests

import (
	"fmt"
	"math/rand/v2"
	"slices"
	"testing"

	"loop.example/g00098/impl"
)

// bookedTopic is a topic, and the book of its ring.
type bookedTopic struct {
	name string
	b    *ringBook
}

// topicRow is what a row of calls has come to.
type topicRow struct {
	list  []impl.Topic
	books []bookedTopic
}

const (
	callOpen = iota
	callPublish
	callAtRing
)

// topicCall is one call of a row: s is the name of what is opened, or the pattern; at is the topic at whose ring something is done.
type topicCall struct {
	kind, room, at int
	s              string
	m              impl.Msg
	ring           ringCall
}

func (s topicRow) clone() topicRow {
	d := topicRow{list: cloneTopics(s.list), books: slices.Clone(s.books)}
	for i := range d.books {
		d.books[i].b = d.books[i].b.clone()
	}
	return d
}

// topics are those that the books tell of.
func (s topicRow) topics() []impl.Topic {
	var list []impl.Topic
	for _, x := range s.books {
		list = append(list, impl.Topic{Name: x.name, Ring: x.b.ring()})
	}
	return list
}

// with has one more topic, to which so many were sent already, to nobody.
func (s topicRow) with(name string, room int, sent int) topicRow {
	d := s.clone()
	r := newRingRow(room, sent, 0)
	d.list = append(d.list, impl.Topic{Name: name, Ring: r.r})
	d.books = append(d.books, bookedTopic{name: name, b: r.b})
	return d
}

// open tells how a topic is opened in the books.
func (s *topicRow) open(name string, room int) (int, int) {
	there := slices.ContainsFunc(s.books, func(x bookedTopic) bool { return x.name == name })
	switch {
	case !nameIsRight(name), room < 1, room > 16:
		return -1, impl.Bad
	case there:
		return -1, impl.There
	case len(s.books) == 12:
		return -1, impl.Full
	}
	s.books = append(s.books, bookedTopic{name: name, b: &ringBook{room: room}})
	return len(s.books) - 1, impl.Done
}

// publish tells how a message is sent to all books that match.
func (s *topicRow) publish(pattern string, m impl.Msg) topicsAnswer {
	if !patternIsRight(pattern) || !msgIsRight(m) {
		return topicsAnswer{code: impl.Bad}
	}
	a, found := topicsAnswer{}, 0
	matches := matcherOf(pattern)
	for i, x := range s.books {
		if !matches(x.name) {
			continue
		}
		found++
		wakes, code := x.b.send(m)
		if code == impl.Done {
			a.n++
		}
		for _, id := range wakes {
			a.told = append(a.told, impl.Hit{Topic: i, Id: id})
		}
	}
	if found == 0 {
		a.code = impl.None
	} else if a.n == 0 {
		a.code = impl.Over
	}
	return a
}

// do does one call of the program and in the books, and holds what they answer against each other.
func (s topicRow) do(t *testing.T, x topicCall) (topicRow, topicsAnswer) {
	t.Helper()
	d := s.clone()
	var got, want topicsAnswer
	switch x.kind {
	case callOpen:
		got.list, got.n, got.code = impl.OpenTopic(s.list, x.s, x.room)
		want.n, want.code = d.open(x.s, x.room)
	case callPublish:
		got.list, got.told, got.n, got.code = impl.Publish(s.list, x.s, x.m)
		want = d.publish(x.s, x.m)
	case callAtRing:
		row, a := ringRow{r: s.list[x.at].Ring, b: s.books[x.at].b}.do(t, x.ring)
		d.list[x.at].Ring, d.books[x.at].b = row.r, row.b
		return d, topicsAnswer{list: d.list, code: a.code}
	}
	want.list = d.topics()
	if !sameTopicsAnswer(got, want) || !impl.TopicsOk(got.list) {
		t.Fatalf("%+v of %+v\n= %+v\nthe books say %+v", x, s.list, got, want)
	}
	d.list = got.list
	if x.kind == callOpen {
		s.checkOpened(t, x, got)
	} else {
		s.checkPublished(t, x, got)
	}
	return d, got
}

// checkOpened: a topic that is opened is found by its name, is empty, and can't be opened once more.
func (s topicRow) checkOpened(t *testing.T, x topicCall, a topicsAnswer) {
	t.Helper()
	if a.code != impl.Done {
		if !sameTopics(a.list, s.list) || a.n != -1 {
			t.Fatal("not opened", x, s.list, a)
		}
		return
	}
	if a.n != len(s.list) || impl.TopicAt(a.list, x.s) != a.n || impl.TopicAt(s.list, x.s) != -1 || !sameTopics(a.list[:a.n], s.list) {
		t.Fatal("opened", x, s.list, a)
	}
	if r := a.list[a.n].Ring; r.Sent+r.Next+len(r.Items)+len(r.Subs)+len(r.Line)+len(r.Grants) != 0 || r.Closed || r.Cap != x.room {
		t.Fatal("not empty", x, r)
	}
	for _, room := range []int{1, x.room, 16} {
		if list, at, code := impl.OpenTopic(a.list, x.s, room); at != -1 || code != impl.There || !sameTopics(list, a.list) {
			t.Fatal("opened once more", x, list, at, code)
		}
	}
}

// checkPublished: each topic that matches is sent the message, if it takes one, and every other is as it was; the hits are just those that were told there, topic by topic.
func (s topicRow) checkPublished(t *testing.T, x topicCall, a topicsAnswer) {
	t.Helper()
	var told []impl.Hit
	found, took := 0, 0
	for i, before := range s.list {
		r := a.list[i].Ring
		match := impl.Matches(before.Name, x.s) && impl.MsgOk(x.m)
		takes := match && !before.Ring.Closed && before.Ring.Sent < impl.MaxSent
		if !takes && !sameTopic(a.list[i], before) || takes && (r.Sent != before.Ring.Sent+1 || len(r.Items) > 0 && r.Items[len(r.Items)-1] != x.m) {
			t.Fatal("sent", x, i, before, r)
		}
		if match {
			found++
		}
		if takes {
			took++
		}
		for _, id := range r.Grants {
			if !slices.Contains(before.Ring.Grants, id) {
				told = append(told, impl.Hit{Topic: i, Id: id})
			}
		}
	}
	if !slices.Equal(a.told, told) || a.n != took || (a.code == impl.Done) != (took > 0) || (a.code == impl.Over) != (found > 0 && took == 0) {
		t.Fatal("told", x, a, told, found, took)
	}
	for _, h := range a.told {
		r, sent := a.list[h.Topic].Ring, s.list[h.Topic].Ring.Sent
		if _, y, code := impl.Proceed(r, h.Id); code != impl.Done || y != (impl.Told{Kind: impl.RGot, Msg: x.m, Index: sent}) {
			t.Fatal("who was told hears another one", x, h, y, code)
		}
	}
}

// sent is how many were sent to all topics together.
func (s topicRow) sent() int {
	n := 0
	for _, x := range s.list {
		n += x.Ring.Sent
	}
	return n
}

func (s topicRow) key() string {
	var rows []string
	for i, x := range s.books {
		rows = append(rows, x.name, ringRow{r: s.list[i].Ring, b: x.b}.key())
	}
	return fmt.Sprint(rows)
}

// TestEveryRowOfTopics does all rows of calls at two topics, with a Sub each, up to a few messages, going on from each state just once until there is no other one.
func TestEveryRowOfTopics(t *testing.T) {
	numbers := allOf(bare(2))
	calls := []topicCall{{kind: callOpen, s: "a", room: 1}, {kind: callOpen, s: "a.b", room: 2}, {kind: callOpen, s: "*", room: 1}, {kind: callOpen, s: "a", room: 0}}
	for _, pattern := range []string{"a", "a.b", "*", "a.*", ">", "b", "a."} {
		for _, m := range []impl.Msg{num(7), text("a"), {}} {
			calls = append(calls, topicCall{kind: callPublish, s: pattern, m: m})
		}
	}
	for at := range 2 {
		for _, kind := range []int{callReceive, callProceed, callUnwait, callSubscribe, callClose} {
			calls = append(calls, topicCall{kind: callAtRing, at: at, ring: ringCall{kind: kind, f: numbers}})
		}
	}
	seen := map[string]bool{}
	states := []topicRow{{}}
	for len(states) > 0 {
		s := states[0]
		states = states[1:]
		for _, call := range calls {
			if call.kind == callAtRing && call.at >= len(s.list) {
				continue
			}
			d, _ := s.do(t, call)
			if d.sent() > 2 || slices.ContainsFunc(d.list, func(x impl.Topic) bool { return x.Ring.Next > 1 }) {
				continue
			}
			if key := d.key(); !seen[key] {
				seen[key] = true
				states = append(states, d)
			}
		}
	}
	if len(seen) < 3000 {
		t.Error("these rows come to too little", len(seen))
	}
}

// topicTally counts what the rows come to, so that it is seen when they come to too little.
type topicTally struct{ opened, there, full, one, several, some, none, over, told, apart, bad int }

func (c *topicTally) add(s topicRow, x topicCall, a topicsAnswer) {
	count := func(n *int, so bool) {
		if so {
			*n++
		}
	}
	open, publish := x.kind == callOpen, x.kind == callPublish
	count(&c.opened, open && a.code == impl.Done)
	count(&c.there, open && a.code == impl.There)
	count(&c.full, open && a.code == impl.Full)
	count(&c.one, publish && a.n == 1)
	count(&c.several, publish && a.n > 2)
	count(&c.none, publish && a.code == impl.None)
	count(&c.over, publish && a.code == impl.Over)
	count(&c.told, publish && len(a.told) > 1 && a.told[0].Topic == a.told[1].Topic)
	count(&c.apart, publish && len(a.told) > 1 && a.told[0].Topic != a.told[len(a.told)-1].Topic)
	count(&c.bad, publish && a.code == impl.Bad)
	if publish && a.n > 0 {
		matches := 0
		for _, y := range s.list {
			if impl.Matches(y.Name, x.s) {
				matches++
			}
		}
		count(&c.some, matches > a.n)
	}
}

// someTopicCall publishes about share times of twenty.
func someTopicCall(r *rand.Rand, s topicRow, share int) topicCall {
	names := nameSets()[2]
	patterns := append(slices.Clone(names), ">", "*", "a.*", "a.>", "*.a", "*.*", "*.*.*", "a.a.>", "b.>", "*.a.>", "a.*.a", "c", "a.", "a*", "")
	x := topicCall{kind: callAtRing, room: 1 + r.IntN(4), m: sentAs(r.IntN(400))}
	switch k := r.IntN(20); {
	case k < 1 || len(s.list) == 0:
		x.kind, x.s = callOpen, append(names, "c.c", "c.d", "*")[r.IntN(len(names)+3)]
		if r.IntN(20) == 0 {
			x.room = []int{-1, 0, 16, 17}[r.IntN(4)]
		}
	case k <= share:
		x.kind, x.s = callPublish, patterns[r.IntN(len(patterns))]
		if r.IntN(30) == 0 {
			x.m = impl.Msg{}
		}
	default:
		x.at = r.IntN(len(s.list))
		row := "rrrrrrrrrpppwaaaaq"
		if r.IntN(150) == 0 {
			row = "c"
		}
		x.ring = someRingCall(r, ringRow{r: s.list[x.at].Ring, b: s.books[x.at].b}, row)
	}
	return x
}

// TestLongRowsOfTopics goes on with many topics and many Subs, by chance; some topics come to the last message that there can be.
func TestLongRowsOfTopics(t *testing.T) {
	var c topicTally
	for seed := range uint64(40) {
		r := rand.New(rand.NewPCG(seed, 37))
		var s topicRow
		if seed%2 == 0 {
			s = s.with("a.z", 2, most-9).with("z", 1, 5).with("b.a", 3, most-3)
		}
		for range 600 {
			x := someTopicCall(r, s, 1+int(seed%4)*2)
			d, a := s.do(t, x)
			c.add(s, x, a)
			s = d
		}
	}
	for _, n := range []int{c.opened, c.there, c.full, c.one, c.several, c.some, c.none, c.over, c.told, c.apart, c.bad} {
		if n < 50 {
			t.Errorf("these rows come to too little: %+v", c)
			break
		}
	}
}
