package tests

import (
	"fmt"
	"math"
	"slices"
	"strings"
	"testing"

	"loop.example/g00098/impl"
)

func topicsAreRight(list []impl.Topic) bool {
	seen := map[string]bool{}
	for _, x := range list {
		if seen[x.Name] || !nameIsRight(x.Name) || !ringIsRight(x.Ring) {
			return false
		}
		seen[x.Name] = true
	}
	return len(list) <= 12
}

func topicPlace(list []impl.Topic, name string) int {
	return slices.IndexFunc(list, func(x impl.Topic) bool { return x.Name == name })
}

func cloneTopics(list []impl.Topic) []impl.Topic {
	d := slices.Clone(list)
	for i := range d {
		d[i].Ring = cloneRing(d[i].Ring)
	}
	return d
}

var fillTopic = impl.Topic{Name: "filler", Ring: impl.Ring{Cap: filler}}

// roomyTopics is a copy with spare room behind it, and behind each list of its rings.
func roomyTopics(list []impl.Topic) []impl.Topic {
	d := append(slices.Clone(list), fillTopic, fillTopic, fillTopic)[:len(list)]
	for i := range d {
		d[i].Ring = roomyRing(d[i].Ring)
	}
	return d
}

// wholeTopics is a copy in which the room behind each list is a part of it.
func wholeTopics(list []impl.Topic) []impl.Topic {
	d := slices.Clone(list[:cap(list)])
	for i := range d {
		d[i].Ring = wholeRing(d[i].Ring)
	}
	return d
}

// topicPlaces is where a number can be laid into the lists of an answer, and into the room behind them.
func topicPlaces(list []impl.Topic, told []impl.Hit) []*int {
	var places []*int
	room := list[:cap(list)]
	for i := range room {
		places = append(places, &room[i].Ring.Cap)
		places = append(places, placesOf(room[i].Ring, nil)...)
	}
	behind := told[:cap(told)]
	for i := range behind {
		places = append(places, &behind[i].Id)
	}
	return places
}

// topicsGiven is what was handed in, and how it was ahead of the call.
type topicsGiven struct {
	list   []impl.Topic
	before []impl.Topic
}

func giveTopics(list []impl.Topic) topicsGiven {
	g := topicsGiven{list: roomyTopics(list)}
	g.before = wholeTopics(g.list)
	return g
}

func (g topicsGiven) checkKept(t *testing.T, what string) {
	t.Helper()
	if !sameTopics(wholeTopics(g.list), g.before) {
		t.Fatalf("%s: what was handed in has changed: %s", what, brief(g.before))
	}
}

// topicsAnswer has what any function of topics answers that answers a list; n is the number of the topic that is opened, or how many took what is published.
type topicsAnswer struct {
	list []impl.Topic
	told []impl.Hit
	n    int
	code int
}

func sameTopicsAnswer(a topicsAnswer, b topicsAnswer) bool {
	return sameTopics(a.list, b.list) && slices.Equal(a.told, b.told) && a.n == b.n && a.code == b.code
}

// checkAnswer holds an answer against the one that is wanted. Then it lays numbers into all places of the answer: where one is shared with what was handed in, that has changed.
func (g topicsGiven) checkAnswer(t *testing.T, what string, got topicsAnswer, want topicsAnswer) {
	t.Helper()
	if !sameTopicsAnswer(got, want) {
		t.Fatalf("%s of %s\n= %s\nwant %s", what, brief(g.list), brief(got), brief(want))
	}
	g.checkKept(t, what)
	if !lieApart(topicPlaces(got.list, got.told)) {
		t.Fatalf("%s: two lists of the answer share memory: %s", what, brief(g.before))
	}
	g.checkKept(t, what)
}

func openBy(list []impl.Topic, name string, room int) topicsAnswer {
	want := topicsAnswer{list: cloneTopics(list), n: -1}
	switch {
	case !topicsAreRight(list), !nameIsRight(name), room < 1, room > 16:
		want.code = impl.Bad
	case topicPlace(list, name) >= 0:
		want.code = impl.There
	case len(list) == 12:
		want.code = impl.Full
	default:
		want.n = len(list)
		want.list = append(want.list, impl.Topic{Name: name, Ring: impl.Ring{Cap: room}})
	}
	return want
}

func publishBy(list []impl.Topic, pattern string, m impl.Msg) topicsAnswer {
	want := topicsAnswer{list: cloneTopics(list)}
	if !topicsAreRight(list) || !patternIsRight(pattern) || !msgIsRight(m) {
		want.code = impl.Bad
		return want
	}
	matches, code := matcherOf(pattern), impl.None
	for i, x := range list {
		if !matches(x.Name) {
			continue
		}
		if code == impl.None {
			code = impl.Over
		}
		a := sendBy(x.Ring, m)
		if a.code != impl.Done {
			continue
		}
		want.list[i].Ring, want.n, code = a.r, want.n+1, impl.Done
		for _, id := range a.list {
			want.told = append(want.told, impl.Hit{Topic: i, Id: id})
		}
	}
	want.code = code
	return want
}

func (g topicsGiven) checkOpen(t *testing.T, list []impl.Topic, name string, room int) {
	t.Helper()
	var got topicsAnswer
	got.list, got.n, got.code = impl.OpenTopic(g.list, name, room)
	g.checkAnswer(t, fmt.Sprintf("OpenTopic with %.60q, %d", name, room), got, openBy(list, name, room))
}

func (g topicsGiven) checkPublish(t *testing.T, list []impl.Topic, pattern string, m impl.Msg) {
	t.Helper()
	var got topicsAnswer
	got.list, got.told, got.n, got.code = impl.Publish(g.list, pattern, m)
	g.checkAnswer(t, fmt.Sprintf("Publish with %.60q, %+v", pattern, m), got, publishBy(list, pattern, m))
}

func (g topicsGiven) checkTopicAt(t *testing.T, list []impl.Topic, name string) {
	t.Helper()
	want := -1
	if topicsAreRight(list) {
		want = topicPlace(list, name)
	}
	if at := impl.TopicAt(g.list, name); at != want {
		t.Fatalf("TopicAt(%s, %.60q) = %d, want %d", brief(g.list), name, at, want)
	}
	g.checkKept(t, "TopicAt")
}

// checkTopics asks every function of topics at a list. What was handed in is the same for all of them, as none may change it.
func checkTopics(t *testing.T, list []impl.Topic, texts []string, rooms []int, msgs []impl.Msg) {
	t.Helper()
	g := giveTopics(list)
	if ok := impl.TopicsOk(g.list); ok != topicsAreRight(list) {
		t.Fatalf("TopicsOk(%s) = %v", brief(list), ok)
	}
	g.checkKept(t, "TopicsOk")
	for _, s := range texts {
		g.checkTopicAt(t, list, s)
		for _, room := range rooms {
			g.checkOpen(t, list, s, room)
		}
		for _, m := range msgs {
			g.checkPublish(t, list, s, m)
		}
	}
}

// someRings are n of them, each so many places from the one ahead.
func someRings(all []impl.Ring, from int, step int, n int) []impl.Ring {
	var list []impl.Ring
	for i := range n {
		list = append(list, all[(from+i*step)%len(all)])
	}
	return list
}

func named(names []string, rings []impl.Ring) []impl.Topic {
	var list []impl.Topic
	for i, r := range rings {
		list = append(list, impl.Topic{Name: names[i], Ring: r})
	}
	return list
}

// nameSets have as many names as there can be topics, or one more, so that a pattern finds none of them, one, several or all.
func nameSets() [][]string {
	return [][]string{
		append(twelve(), "y"),
		{"x.a", "x.b", "x.c", "x.a.a", "x.a.b", "x", "a.x", "x.0", "x.9.x", "xx", "xx.a", "x.aa", "x.ab"},
		{"a", "a.a", "a.a.a", "a.a.a.a", "b", "b.a", "b.a.a", "a.b.a", "a.a.b", "b.b.b", "0", "ab", "ba"},
		{strings.Repeat("a", 24), strings.Repeat("a", 23), strings.Repeat("a.", 11) + "a", strings.Repeat("a.", 11) + "aa", "a", "b", "c", "d", "e", "f", "g", "h", "i"},
	}
}

// topicTexts are asked for as names and as patterns.
func topicTexts() []string {
	return []string{"a", "y", "x", "a.b", "x.a", "new.one", "*", ">", "a.*", "x.*", "*.a", "*.*", "x.>", "a.>", "a.a.*", "*.*.*", "*.>", "b.>", "no.>", "*.*.*.*.*", strings.Repeat("a", 24), strings.Repeat("*.", 11) + ">", "", ".", "a.", ".a", "a..b", ">.a", "a*", "A", "a_b", "\xff", strings.Repeat("a", 25)}
}

// rightTopics are lists of each length with rings of each kind.
func rightTopics() [][]impl.Topic {
	list, all := [][]impl.Topic{nil, {}}, rightRings()
	for i, names := range nameSets() {
		for n := 1; n <= 12; n++ {
			list = append(list, named(names, someRings(all, 97*n+i, 41+2*n, n)), named(names, someRings(all, 5*n+i, 1, n)))
		}
	}
	return list
}

func TestRightTopics(t *testing.T) {
	for _, list := range rightTopics() {
		if !impl.TopicsOk(list) {
			t.Fatalf("not right: %s", brief(list))
		}
	}
}

func TestTopicsAtTheirEdges(t *testing.T) {
	rooms := []int{math.MinInt, -1, 0, 1, 16, 17, math.MaxInt}
	for _, list := range rightTopics() {
		checkTopics(t, list, topicTexts(), rooms, []impl.Msg{num(4), text("ab"), {}})
	}
}

// TestTopicsAndEachMessage has messages of each kind, at their edges and wrong.
func TestTopicsAndEachMessage(t *testing.T) {
	names, all := nameSets()[1], rightRings()
	for from := range 12 {
		list := named(names, someRings(all, 200*from, 7, 5))
		checkTopics(t, list, []string{"x.*", ">", "x", "zz"}, nil, append(rightMsgs(), wrongMsgs()...))
	}
}

// TestEachRightRingInATopic has each ring of many in the middle of a list, once where it matches and once where it does not.
func TestEachRightRingInATopic(t *testing.T) {
	for i, r := range rightRings() {
		if i%3 != 0 {
			continue
		}
		list := topics(topic("a.a", ringOf(2, 5, fresh(3, 5))), topic("a.b", r), topic("b", r))
		checkTopics(t, list, []string{"a.*"}, []int{1}, []impl.Msg{num(4), text("ab")})
	}
}

// wrongLists are not TopicsOk, each for a reason of its own.
func wrongLists() [][]impl.Topic {
	names := nameSets()[0]
	right := named(names, someRings(rightRings(), 300, 61, 12))
	list := [][]impl.Topic{append(cloneTopics(right), topic("y", ringOf(1, 0))), append(cloneTopics(right), topic("a", ringOf(1, 0))), append(cloneTopics(right), topic("", impl.Ring{})), {{}}, {{}, {}}}
	fault := func(n int, change func(list []impl.Topic)) {
		x := cloneTopics(right[:n])
		change(x)
		list = append(list, x)
	}
	for i, s := range append(wrongTexts(), rightPatterns()...) {
		fault(i%12+1, func(list []impl.Topic) { list[i%len(list)].Name = s })
		fault(3, func(list []impl.Topic) { list[i%3].Name = s })
	}
	for i := range 12 {
		for j := range i {
			fault(12, func(list []impl.Topic) { list[i].Name = list[j].Name })
			fault(i+1, func(list []impl.Topic) { list[j].Name = list[i].Name })
		}
	}
	return append(list, slices.Repeat(right, 2), slices.Repeat(right, 1000))
}

// TestWrongTopics has its answers written out: the list handed back, -1 or 0, nothing told, and Bad.
func TestWrongTopics(t *testing.T) {
	check := func(list []impl.Topic) {
		t.Helper()
		if impl.TopicsOk(list) || impl.TopicAt(list, "a") != -1 {
			t.Fatal("right", brief(list))
		}
		if d, at, code := impl.OpenTopic(list, "new", 1); at != -1 || code != impl.Bad || !sameTopics(d, list) {
			t.Fatal("open", brief(list), brief(d), at, code)
		}
		if d, told, took, code := impl.Publish(list, ">", num(1)); len(told) != 0 || took != 0 || code != impl.Bad || !sameTopics(d, list) {
			t.Fatal("publish", brief(list), brief(d), told, took, code)
		}
	}
	for _, list := range wrongLists() {
		check(list)
	}
	all := rightRings()
	for i, r := range wrongRings() {
		list := named(nameSets()[0], someRings(all, i, 11, 1+i%4))
		list[i/2%len(list)].Ring = r
		check(list)
	}
}

// TestWrongTopicsAndTheRest has them with names, patterns, rooms and messages that are right and wrong.
func TestWrongTopicsAndTheRest(t *testing.T) {
	texts := []string{"a", "new", "*", ""}
	for _, list := range wrongLists() {
		if len(list) < 1000 {
			checkTopics(t, list, texts, []int{0, 1}, []impl.Msg{num(4), {}})
		}
	}
	for i, r := range wrongRings() {
		if len(r.Items)+len(r.Subs)+len(r.Line)+len(r.Grants) > 1000 {
			continue
		}
		list := topics(topic("a", ringOf(2, 5, fresh(3, 5))), topic("b", r), topic("c", ringOf(1, 0)))
		checkTopics(t, list[:2+i%2], texts[:2], []int{1}, []impl.Msg{num(4)})
	}
}

// TestEveryFewNames goes through all lists of up to three names, right and wrong, alike and unlike.
func TestEveryFewNames(t *testing.T) {
	names := []string{"a", "a.a", "b", "aa", "*", ""}
	eachList(names, 3, func(row []string) {
		checkTopics(t, empties(row...), append(names, "a.*", ">"), []int{1}, []impl.Msg{num(1)})
	})
}

// TestEachPatternAtATree publishes by each short pattern at a list of names that have parts in common.
func TestEachPatternAtATree(t *testing.T) {
	list := named(nameSets()[2], someRings(rightRings(), 1000, 77, 12))
	g := giveTopics(list)
	for _, pattern := range rowsOf(4, "a", "b", "*", ">") {
		g.checkPublish(t, list, pattern, num(4))
	}
	for _, pattern := range append(rightNames(), rightPatterns()...) {
		g.checkPublish(t, list, pattern, text("ab"))
	}
	for _, pattern := range wrongTexts() {
		g.checkPublish(t, list, pattern, num(4))
	}
	for i, name := range append(rightNames(), wrongTexts()...) {
		g.checkTopicAt(t, list, name)
		g.checkOpen(t, list, name, 1)
		giveTopics(list[:i%12]).checkOpen(t, list[:i%12], name, 16)
	}
}

// TestTopicsThatShareTheirLists hands in topics that have one ring in common, in a part of a longer list: no two lists of an answer may share memory, nor one of them with what was handed in.
func TestTopicsThatShareTheirLists(t *testing.T) {
	terms := allOf(bare(2), bare(1), bare(9), fillTerm)
	subs := []impl.Sub{reads(0, 2, 6), reads(1, 0, 9), reads(4, 9, 9), fillSub}
	for i := range subs {
		subs[i].Filter = terms[:3]
	}
	ids := []int{1, 4, 0, 9, 9}
	r := impl.Ring{Cap: 3, Sent: 9, Items: append(sentFrom(6, 9), fillMsg)[:3], Next: 8, Subs: subs[:3], Line: ids[:2], Grants: ids[2:3]}
	list := topics(topic("a", r), topic("a.b", r), topic("a.c", r), topic("b", closedRing(waitedFor(r, nil, ids[:3]))), topic("b", r), topic("d", r))
	kept := wholeTopics(list)
	for _, n := range []int{0, 1, 2, 4, 5} {
		for _, s := range []string{"a", "a.*", ">", "e", "*", "b", "z", ""} {
			for i, a := range topicsAnswers(list[:n], s) {
				want := topicsAnswers(cloneTopics(list[:n]), s)[i]
				if !sameTopicsAnswer(a, want) {
					t.Fatal("answer", i, n, s, a, want)
				}
				if !lieApart(topicPlaces(a.list, a.told)) {
					t.Fatal("two lists of the answer share memory", i, n, s)
				}
				if !sameTopics(wholeTopics(list), kept) {
					t.Fatal("what was handed in has changed", i, n, s)
				}
			}
		}
	}
}

func topicsAnswers(list []impl.Topic, s string) []topicsAnswer {
	var opens, refuses, publishes, passes, wrong topicsAnswer
	opens.list, opens.n, opens.code = impl.OpenTopic(list, s, 3)
	refuses.list, refuses.n, refuses.code = impl.OpenTopic(list, s, 0)
	publishes.list, publishes.told, publishes.n, publishes.code = impl.Publish(list, s, num(5))
	passes.list, passes.told, passes.n, passes.code = impl.Publish(list, s, text("a"))
	wrong.list, wrong.told, wrong.n, wrong.code = impl.Publish(list, s, impl.Msg{})
	return []topicsAnswer{opens, refuses, publishes, passes, wrong}
}

// TestTopicsKeepNothing spoils what is answered and asks once more.
func TestTopicsKeepNothing(t *testing.T) {
	for _, list := range rightTopics() {
		for _, s := range []string{"a", "x", "new", ">", "*.*", "zz.>", ""} {
			var kept []topicsAnswer
			for _, a := range topicsAnswers(list, s) {
				b := a
				b.list, b.told = cloneTopics(a.list), slices.Clone(a.told)
				kept = append(kept, b)
				for _, p := range topicPlaces(a.list, a.told) {
					*p += 1000003
				}
			}
			for j, a := range topicsAnswers(list, s) {
				if !sameTopicsAnswer(a, kept[j]) {
					t.Fatal("another one the second time", brief(list), s, j, brief(a))
				}
			}
		}
	}
}
