package tests

import (
	"math"
	"slices"
	"testing"

	"loop.example/g00098/impl"
)

// The tests of this file have their answers written out, so that they lean on no second way to work them out.

func legAt(number int, id int) impl.Leg { return impl.Leg{Topic: number, Id: id} }

func overAt(number int, id int) impl.Leg { return impl.Leg{Topic: number, Id: id, Over: true} }

func mergeInto(into int, legs ...impl.Leg) impl.Merge { return impl.Merge{Legs: legs, Into: into} }

func sameMerge(a impl.Merge, b impl.Merge) bool {
	return a.Into == b.Into && a.Moved == b.Moved && slices.Equal(a.Legs, b.Legs)
}

// atNames has the rings by the names a, b, c and so on.
func atNames(rings ...impl.Ring) []impl.Topic {
	var list []impl.Topic
	for i, r := range rings {
		list = append(list, topic(string(rune('a'+i)), r))
	}
	return list
}

func TestMergeConstants(t *testing.T) {
	if impl.MaxLegs != 6 || impl.MaxMerges != 4 {
		t.Error("constants", impl.MaxLegs, impl.MaxMerges)
	}
}

// The rings of which a Leg with the Id 2 takes; Next is 3.
func hasMessages() impl.Ring { return keeps(2, 6, nums(5, 6), 3, fresh(2, 4)) }
func hasLost() impl.Ring     { return keeps(2, 6, nums(5, 6), 3, fresh(2, 1)) }
func hasNone() impl.Ring     { return keeps(2, 6, nil, 3, fresh(2, 6)) }
func hasOthers() impl.Ring   { return keeps(2, 6, nums(5, 6), 3, fresh(2, 4, bare(3))) }
func isRead() impl.Ring      { return closedRing(hasNone()) }

func TestMergeOkByHand(t *testing.T) {
	stands := waitedFor(keeps(2, 6, nil, 9, fresh(2, 6), fresh(4, 6), fresh(7, 6)), []int{4}, []int{7})
	list := atNames(hasMessages(), stands, isRead(), keeps(1, 0, nil, 0), keeps(1, 0, nil, 0), hasLost(), hasOthers(), hasMessages())
	six := []impl.Leg{legAt(7, 2), legAt(0, 2), legAt(6, 2), legAt(1, 2), legAt(5, 2), legAt(2, 2)}
	withLost := func(n int) impl.Leg { return impl.Leg{Topic: 0, Id: 2, Lost: n} }
	moved := func(n int) impl.Merge { return impl.Merge{Legs: []impl.Leg{legAt(0, 2)}, Into: 3, Moved: n} }
	for i, m := range []impl.Merge{
		mergeInto(3, legAt(0, 2)), mergeInto(0, legAt(1, 2)), mergeInto(1, legAt(0, 2)), mergeInto(7, legAt(0, 2)), mergeInto(0, legAt(7, 2)), mergeInto(2, legAt(0, 2)), mergeInto(3, legAt(2, 2)), mergeInto(3, legAt(0, 2), legAt(1, 2)), mergeInto(3, legAt(1, 2), legAt(0, 2)), mergeInto(3, six[:5]...), mergeInto(3, six...), mergeInto(4, six...),
		mergeInto(3, withLost(0)), mergeInto(3, withLost(1)), mergeInto(3, withLost(most)), moved(1), moved(most),
		// One that is Over asks for no Sub, whatever its Id is.
		mergeInto(3, overAt(0, 2)), mergeInto(3, overAt(0, 0)), mergeInto(3, overAt(4, 0)), mergeInto(3, overAt(0, -1)), mergeInto(3, overAt(0, math.MaxInt)), mergeInto(3, overAt(1, 4)), mergeInto(3, overAt(1, 7)), mergeInto(3, overAt(0, 5), overAt(1, 5), legAt(7, 2)), mergeInto(3, impl.Leg{Topic: 4, Lost: most, Over: true}),
	} {
		if !impl.MergeOk(list, m) {
			t.Error("not right", i, m)
		}
	}
	for i, m := range []impl.Merge{
		{}, mergeInto(3), {Into: 3, Legs: []impl.Leg{}}, mergeInto(3, append(slices.Clone(six), overAt(4, 0))...), mergeInto(3, slices.Repeat(six, 2)...), mergeInto(3, slices.Repeat(six[:1], 100000)...), mergeInto(8, six...),
		mergeInto(3, legAt(0, 2), legAt(0, 2)), mergeInto(3, legAt(0, 2), overAt(0, 2)), mergeInto(3, overAt(4, 0), overAt(4, 1)), mergeInto(3, legAt(0, 2), legAt(1, 2), legAt(0, 2)), mergeInto(3, append(slices.Clone(six[:5]), legAt(7, 2))...),
		mergeInto(0, legAt(0, 2)), mergeInto(1, legAt(0, 2), legAt(1, 2)), mergeInto(0, legAt(0, 2), legAt(1, 2)), mergeInto(4, overAt(4, 0)), mergeInto(2, six...),
		mergeInto(-1, legAt(0, 2)), mergeInto(8, legAt(0, 2)), mergeInto(math.MinInt, legAt(0, 2)), mergeInto(math.MaxInt, legAt(0, 2)), mergeInto(3, legAt(-1, 2)), mergeInto(3, legAt(8, 2)), mergeInto(3, overAt(-1, 2)), mergeInto(3, overAt(8, 2)), mergeInto(3, legAt(0, 2), legAt(math.MaxInt, 2)), mergeInto(3, overAt(math.MinInt, 2), legAt(0, 2)),
		mergeInto(3, withLost(-1)), mergeInto(3, withLost(most+1)), mergeInto(3, withLost(math.MinInt)), mergeInto(3, withLost(math.MaxInt)), mergeInto(3, legAt(1, 2), withLost(-1)), mergeInto(3, impl.Leg{Topic: 4, Lost: -1, Over: true}), mergeInto(3, impl.Leg{Topic: 4, Lost: most + 1, Over: true}), moved(-1), moved(most + 1), moved(math.MinInt), moved(math.MaxInt),
		mergeInto(3, legAt(0, 0)), mergeInto(3, legAt(0, 1)), mergeInto(3, legAt(0, 3)), mergeInto(3, legAt(0, -1)), mergeInto(3, legAt(0, math.MaxInt)), mergeInto(3, legAt(4, 0)), mergeInto(3, legAt(1, 3)), mergeInto(3, legAt(0, 2), legAt(1, 0)), mergeInto(3, legAt(1, 0), legAt(0, 2)),
		mergeInto(3, legAt(1, 4)), mergeInto(3, legAt(1, 7)), mergeInto(3, legAt(0, 2), legAt(1, 4)), mergeInto(3, legAt(1, 7), legAt(0, 2)),
	} {
		if impl.MergeOk(list, m) {
			t.Error("right", i, m.Into, len(m.Legs))
		}
	}
}

// wrongTopicLists are not TopicsOk, though what a merge asks of its topics is there.
func wrongTopicLists() [][]impl.Topic {
	quiet := keeps(1, 0, nil, 0)
	thirteen := append(atNames(hasMessages(), quiet), empties("n1", "n2", "n3", "n4", "n5", "n6", "n7", "n8", "n9", "n10", "n11")...)
	broken := keeps(2, 6, nums(5), 3, fresh(2, 4))
	return [][]impl.Topic{
		thirteen, topics(topic("a", hasMessages()), topic("a", quiet)), topics(topic("", hasMessages()), topic("b", quiet)), topics(topic("a", hasMessages()), topic("*", quiet)),
		atNames(hasMessages(), impl.Ring{}), atNames(hasMessages(), quiet, impl.Ring{Cap: 17}), atNames(broken, quiet), atNames(hasMessages(), closedRing(waitedFor(keeps(1, 0, nil, 1, fresh(0, 0)), []int{0}, nil))),
	}
}

func TestMergesAtWrongLists(t *testing.T) {
	m := mergeInto(1, legAt(0, 2))
	if !impl.MergeOk(atNames(hasMessages(), keeps(1, 0, nil, 0)), m) || impl.MergeOk(nil, m) || impl.MergeOk(nil, impl.Merge{}) || impl.MergeOk(atNames(hasMessages()), m) {
		t.Error("merge ok", m)
	}
	for i, list := range wrongTopicLists() {
		if impl.TopicsOk(list) || impl.MergeOk(list, m) || len(impl.Ready(list, m)) != 0 {
			t.Error("right", i)
		}
		if d, x, code := impl.OpenMerge(list, []int{0}, 1, nil); !sameTopics(d, list) || !sameMerge(x, impl.Merge{}) || code != impl.Bad {
			t.Error("open", i, brief(d), x, code)
		}
		for _, leg := range []int{-1, 0, 1} {
			if d, x, told, code := impl.Forward(list, m, leg); !sameTopics(d, list) || !sameMerge(x, m) || len(told) != 0 || code != impl.Bad {
				t.Error("forward", i, leg, brief(d), x, told, code)
			}
		}
	}
}

// openCase has only those topics in want that are not as they were.
type openCase struct {
	from []int
	into int
	f    []impl.Term
	want map[int]impl.Ring
	m    impl.Merge
	code int
}

func checkOpens(t *testing.T, list []impl.Topic, cases []openCase) {
	t.Helper()
	for i, x := range cases {
		want := slices.Clone(list)
		for at, r := range x.want {
			want[at].Ring = r
		}
		d, m, code := impl.OpenMerge(list, x.from, x.into, x.f)
		if !sameTopics(d, want) || !sameMerge(m, x.m) || code != x.code {
			t.Error("open", i, brief(d), m, code)
		}
		if code == impl.Done && !impl.MergeOk(d, m) {
			t.Error("not right", i, brief(d), m)
		}
	}
}

func TestOpenMergeByHand(t *testing.T) {
	// The Subs of a merge start at Sent, though older messages are kept for another one.
	stands := waitedFor(keeps(2, 6, nums(5, 6), 9, fresh(2, 4), fresh(4, 6), fresh(7, 6)), []int{4}, []int{7})
	list := atNames(keeps(1, 0, nil, 0), stands, keeps(3, 4, nil, 5))
	numbers := allOf(bare(2))
	a, c := keeps(1, 0, nil, 1, fresh(0, 0)), keeps(3, 4, nil, 6, fresh(5, 4))
	b := waitedFor(keeps(2, 6, nums(5, 6), 10, fresh(2, 4), fresh(4, 6), fresh(7, 6), fresh(9, 6)), []int{4}, []int{7})
	some := waitedFor(keeps(2, 6, nums(5, 6), 10, fresh(2, 4), fresh(4, 6), fresh(7, 6), fresh(9, 6, bare(2))), []int{4}, []int{7})
	checkOpens(t, list, []openCase{
		{[]int{0}, 1, nil, map[int]impl.Ring{0: a}, mergeInto(1, legAt(0, 0)), impl.Done},
		{[]int{1}, 0, nil, map[int]impl.Ring{1: b}, mergeInto(0, legAt(1, 9)), impl.Done},
		{[]int{1}, 2, numbers, map[int]impl.Ring{1: some}, mergeInto(2, legAt(1, 9)), impl.Done},
		{[]int{0, 1}, 2, nil, map[int]impl.Ring{0: a, 1: b}, mergeInto(2, legAt(0, 0), legAt(1, 9)), impl.Done},
		{[]int{2, 0}, 1, nil, map[int]impl.Ring{0: a, 2: c}, mergeInto(1, legAt(2, 5), legAt(0, 0)), impl.Done},
		{[]int{2, 1}, 0, []impl.Term{}, map[int]impl.Ring{1: b, 2: c}, mergeInto(0, legAt(2, 5), legAt(1, 9)), impl.Done},
		{nil, 1, nil, nil, impl.Merge{}, impl.Bad},
		{[]int{}, 1, nil, nil, impl.Merge{}, impl.Bad},
		{[]int{0, 0}, 1, nil, nil, impl.Merge{}, impl.Bad},
		{[]int{0, 2, 0}, 1, nil, nil, impl.Merge{}, impl.Bad},
		{[]int{1}, 1, nil, nil, impl.Merge{}, impl.Bad},
		{[]int{0, 1}, 1, nil, nil, impl.Merge{}, impl.Bad},
		{[]int{1, 0}, 1, nil, nil, impl.Merge{}, impl.Bad},
		{[]int{0, 1, 2}, 0, nil, nil, impl.Merge{}, impl.Bad},
		{[]int{-1}, 1, nil, nil, impl.Merge{}, impl.Bad},
		{[]int{3}, 1, nil, nil, impl.Merge{}, impl.Bad},
		{[]int{0, -1}, 1, nil, nil, impl.Merge{}, impl.Bad},
		{[]int{0, 3}, 1, nil, nil, impl.Merge{}, impl.Bad},
		{[]int{math.MinInt, 0}, 1, nil, nil, impl.Merge{}, impl.Bad},
		{[]int{0, math.MaxInt}, 1, nil, nil, impl.Merge{}, impl.Bad},
		{[]int{0}, -1, nil, nil, impl.Merge{}, impl.Bad},
		{[]int{0}, 3, nil, nil, impl.Merge{}, impl.Bad},
		{[]int{0}, math.MinInt, nil, nil, impl.Merge{}, impl.Bad},
		{[]int{0}, math.MaxInt, nil, nil, impl.Merge{}, impl.Bad},
		{[]int{0}, 1, allOf(bare(0)), nil, impl.Merge{}, impl.Bad},
		{[]int{0}, 1, allOf(bare(8)), nil, impl.Merge{}, impl.Bad},
		{[]int{0}, 1, nots(13), nil, impl.Merge{}, impl.Bad},
	})
	checkOpens(t, nil, []openCase{{[]int{0}, 1, nil, nil, impl.Merge{}, impl.Bad}, {nil, 0, nil, nil, impl.Merge{}, impl.Bad}})
	checkOpens(t, list[:1], []openCase{{[]int{0}, 0, nil, nil, impl.Merge{}, impl.Bad}, {[]int{0}, 1, nil, nil, impl.Merge{}, impl.Bad}})
}

// TestOpenMergeOfMany has as many Legs as there can be, and one more, of as many topics as there can be.
func TestOpenMergeOfMany(t *testing.T) {
	list := empties(twelve()...)
	from := []int{11, 0, 5, 3, 10, 7, 2}
	for n := range 8 {
		want, m, code := slices.Clone(list), impl.Merge{Into: 1}, impl.Done
		for _, number := range from[:n] {
			want[number].Ring = keeps(number+1, 0, nil, 1, fresh(0, 0, nots(12)...))
			m.Legs = append(m.Legs, legAt(number, 0))
		}
		if n == 0 || n == 7 {
			want, m, code = list, impl.Merge{}, impl.Bad
		}
		if d, x, got := impl.OpenMerge(list, from[:n], 1, nots(12)); !sameTopics(d, want) || !sameMerge(x, m) || got != code {
			t.Error("open", n, brief(d), x, got)
		}
	}
	if d, x, code := impl.OpenMerge(list, slices.Repeat(from, 20000), 1, nil); !sameTopics(d, list) || !sameMerge(x, impl.Merge{}) || code != impl.Bad {
		t.Error("open", brief(d), x, code)
	}
}

// TestOpenMergeAtThoseThatRefuse has topics that refuse to be subscribed at as the first, in the middle and as the last: what the first that refuses answers.
func TestOpenMergeAtThoseThatRefuse(t *testing.T) {
	twelveSubs := subsBehind(3, 1, 0, 1, 2, 0, 0, 0, 0, 0, 0, 0, 0, 0)
	open := keeps(1, 0, nil, 0)
	closed, many, last := closedRing(hasMessages()), ringOf(2, 3, twelveSubs...), keeps(2, 3, nil, most)
	one := ringOf(2, 3, twelveSubs[:11]...)
	list := atNames(open, closed, many, last, open, closedRing(many), closedRing(last), one, keeps(2, 3, nil, most-1), open)
	for i, x := range []struct {
		from []int
		code int
	}{
		{[]int{1}, impl.Over}, {[]int{2}, impl.Full}, {[]int{3}, impl.Full}, {[]int{5}, impl.Over}, {[]int{6}, impl.Over},
		{[]int{1, 0, 4}, impl.Over}, {[]int{0, 1, 4}, impl.Over}, {[]int{0, 4, 1}, impl.Over}, {[]int{2, 0, 4}, impl.Full}, {[]int{0, 2, 4}, impl.Full}, {[]int{0, 4, 2}, impl.Full}, {[]int{3, 0, 4}, impl.Full}, {[]int{0, 3, 4}, impl.Full}, {[]int{0, 4, 3}, impl.Full},
		{[]int{1, 2}, impl.Over}, {[]int{2, 1}, impl.Full}, {[]int{0, 3, 4, 1}, impl.Full}, {[]int{0, 1, 4, 3}, impl.Over}, {[]int{7, 8, 0, 4, 2, 1}, impl.Full}, {[]int{7, 8, 0, 4, 1, 2}, impl.Over},
	} {
		if d, m, code := impl.OpenMerge(list, x.from, 9, nil); !sameTopics(d, list) || !sameMerge(m, impl.Merge{}) || code != x.code {
			t.Error("open", i, brief(d), m, code)
		}
		// The reason that is named first counts.
		if d, m, code := impl.OpenMerge(list, x.from, 9, allOf(bare(0))); !sameTopics(d, list) || !sameMerge(m, impl.Merge{}) || code != impl.Bad {
			t.Error("with a wrong filter", i, brief(d), m, code)
		}
		for _, from := range [][]int{append(slices.Clone(x.from), 10), append(slices.Clone(x.from), x.from[0]), append(slices.Clone(x.from), 9)} {
			if d, m, code := impl.OpenMerge(list, from, 9, nil); !sameTopics(d, list) || !sameMerge(m, impl.Merge{}) || code != impl.Bad {
				t.Error("with a wrong number", i, from, brief(d), m, code)
			}
		}
	}
	// These take one Sub more; that what is merged into is closed or full is no reason to refuse.
	for _, into := range []int{1, 2, 3, 5, 6, 9} {
		d, m, code := impl.OpenMerge(list, []int{8, 7}, into, nil)
		if code != impl.Done || !sameMerge(m, mergeInto(into, legAt(8, most-1), legAt(7, 11))) || d[8].Ring.Next != most || len(d[7].Ring.Subs) != 12 || !impl.MergeOk(d, m) || !sameTopic(d[into], list[into]) {
			t.Error("open", into, brief(d), m, code)
		}
	}
}

func TestReadyByHand(t *testing.T) {
	allPass, nonePass := fresh(2, 4, bare(2)), fresh(2, 4, bare(1), bare(8))
	list := atNames(
		hasMessages(), hasLost(), hasNone(), hasOthers(), isRead(), closedRing(hasMessages()), closedRing(hasOthers()), closedRing(hasLost()),
		keeps(2, 6, nums(5, 6), 3, allPass), keeps(2, 6, nums(5, 6), 3, nonePass), keeps(1, 0, nil, 0), closedRing(keeps(1, 0, nil, 0)),
	)
	is := []bool{true, true, false, false, true, true, true, true, true, false}
	for number, ready := range is {
		want := []int{0}
		if !ready {
			want = nil
		}
		for _, into := range []int{10, 11} {
			if got := impl.Ready(list, mergeInto(into, legAt(number, 2))); !slices.Equal(got, want) {
				t.Error("ready", number, got)
			}
			if got := impl.Ready(list, mergeInto(into, overAt(number, 2))); len(got) != 0 {
				t.Error("ready, though it is over", number, got)
			}
		}
	}
	for i, x := range []struct {
		m    impl.Merge
		want []int
	}{
		{mergeInto(10, legAt(0, 2), legAt(1, 2), legAt(4, 2), legAt(5, 2), legAt(6, 2), legAt(8, 2)), []int{0, 1, 2, 3, 4, 5}},
		{mergeInto(10, legAt(8, 2), legAt(2, 2), legAt(6, 2), legAt(9, 2), legAt(4, 2), legAt(3, 2)), []int{0, 2, 4}},
		{mergeInto(10, legAt(2, 2), legAt(0, 2), legAt(3, 2), legAt(1, 2), legAt(9, 2), legAt(4, 2)), []int{1, 3, 5}},
		{mergeInto(10, legAt(2, 2), legAt(3, 2), legAt(9, 2)), nil},
		{mergeInto(10, overAt(0, 2), overAt(1, 2), overAt(4, 2), overAt(11, 0)), nil},
		{mergeInto(10, overAt(0, 2), legAt(1, 2), overAt(4, 2), legAt(2, 2), legAt(5, 2)), []int{1, 4}},
		{mergeInto(10, overAt(0, 2), overAt(1, 7), legAt(2, 2)), nil},
		// Into may be anything: who is ready has nothing to do with it.
		{mergeInto(0, legAt(2, 2), legAt(1, 2)), []int{1}},
		{mergeInto(4, legAt(0, 2), legAt(3, 2)), []int{0}},
		// These are not right.
		{mergeInto(10), nil},
		{mergeInto(10, legAt(0, 2), legAt(0, 2)), nil},
		{mergeInto(0, legAt(0, 2), legAt(1, 2)), nil},
		{mergeInto(12, legAt(0, 2)), nil},
		{mergeInto(10, legAt(0, 2), legAt(12, 2)), nil},
		{mergeInto(10, legAt(0, 2), legAt(1, 1)), nil},
		{mergeInto(10, legAt(0, 2), impl.Leg{Topic: 1, Id: 2, Lost: -1}), nil},
		{impl.Merge{Legs: []impl.Leg{legAt(0, 2)}, Into: 10, Moved: most + 1}, nil},
	} {
		if got := impl.Ready(list, x.m); !slices.Equal(got, x.want) {
			t.Error("ready", i, got)
		}
	}
}

// forwardCase has only those topics in want that are not as they were; leg is what the one that is moved on is then.
type forwardCase struct {
	list []impl.Topic
	m    impl.Merge
	at   int
	want map[int]impl.Ring
	leg  impl.Leg
	more int
	told []impl.Hit
	code int
}

func checkForwards(t *testing.T, cases []forwardCase) {
	t.Helper()
	for i, x := range cases {
		list, m := slices.Clone(x.list), impl.Merge{Legs: slices.Clone(x.m.Legs), Into: x.m.Into, Moved: x.m.Moved + x.more}
		for number, r := range x.want {
			list[number].Ring = r
		}
		if x.code == impl.Done {
			m.Legs[x.at] = x.leg
		}
		if d, got, told, code := impl.Forward(x.list, x.m, x.at); !sameTopics(d, list) || !sameMerge(got, m) || !slices.Equal(told, x.told) || code != x.code {
			t.Error("forward", i, brief(d), got, told, code)
		}
	}
}

// twoWait is what is merged into: Sub 1, which wants texts only, is in line ahead of Sub 0.
func twoWait() impl.Ring {
	return waitedFor(keeps(3, 4, nil, 2, fresh(0, 4), fresh(1, 4, bare(3))), []int{1, 0}, nil)
}

// fiveMoved is twoWait with the number 5 in it: Sub 1 has passed it by.
func fiveMoved() impl.Ring {
	passed := impl.Sub{Id: 1, Start: 4, Cursor: 5, Passed: 1, Filter: allOf(bare(3))}
	return waitedFor(keeps(3, 5, nums(5), 2, fresh(0, 4), passed), []int{1}, []int{0})
}

// oneRead is hasMessages when its first one is read.
func oneRead() impl.Ring {
	return keeps(2, 6, nums(6), 3, impl.Sub{Id: 2, Start: 4, Cursor: 5, Got: 1})
}

func TestForwardOfAMessage(t *testing.T) {
	m := impl.Merge{Legs: []impl.Leg{legAt(0, 2), legAt(1, 2)}, Into: 2, Moved: 7}
	at := func(from impl.Ring, into impl.Ring) []impl.Topic { return atNames(from, hasNone(), into) }
	mixed := []impl.Msg{text("t"), num(6)}
	gotOne := impl.Sub{Id: 2, Start: 4, Cursor: 6, Got: 1, Passed: 1, Filter: allOf(bare(2))}
	quiet, full, closed := keeps(3, 4, nil, 0), keeps(3, most, nil, 0), closedRing(keeps(3, 4, nil, 0))
	slow := keeps(2, 4, nums(3, 4), 1, fresh(0, 2))
	stands := waitedFor(keeps(2, 6, nums(5, 6), 9, fresh(2, 4), fresh(4, 6), fresh(7, 6)), []int{7}, []int{4})
	standsOn := waitedFor(keeps(2, 6, nums(6), 9, impl.Sub{Id: 2, Start: 4, Cursor: 5, Got: 1}, fresh(4, 6), fresh(7, 6)), []int{7}, []int{4})
	checkForwards(t, []forwardCase{
		{at(hasMessages(), quiet), m, 0, map[int]impl.Ring{0: oneRead(), 2: keeps(3, 5, nil, 0)}, legAt(0, 2), 1, nil, impl.Done},
		{at(hasMessages(), twoWait()), m, 0, map[int]impl.Ring{0: oneRead(), 2: fiveMoved()}, legAt(0, 2), 1, hits([2]int{2, 0}), impl.Done},
		{at(hasMessages(), slow), m, 0, map[int]impl.Ring{0: oneRead(), 2: keeps(2, 5, nums(4, 5), 1, fresh(0, 2))}, legAt(0, 2), 1, nil, impl.Done},
		{at(stands, twoWait()), m, 0, map[int]impl.Ring{0: standsOn, 2: fiveMoved()}, legAt(0, 2), 1, hits([2]int{2, 0}), impl.Done},
		// A closed one is read to its end first.
		{at(closedRing(hasMessages()), twoWait()), m, 0, map[int]impl.Ring{0: closedRing(oneRead()), 2: fiveMoved()}, legAt(0, 2), 1, hits([2]int{2, 0}), impl.Done},
		// The filter passes one by.
		{at(keeps(2, 6, mixed, 3, fresh(2, 4, bare(2))), quiet), m, 0, map[int]impl.Ring{0: keeps(2, 6, nil, 3, gotOne), 2: keeps(3, 5, nil, 0)}, legAt(0, 2), 1, nil, impl.Done},
		// What is refused is read, but not moved.
		{at(hasMessages(), full), m, 0, map[int]impl.Ring{0: oneRead()}, legAt(0, 2), 0, nil, impl.Done},
		{at(hasMessages(), closed), m, 0, map[int]impl.Ring{0: oneRead()}, legAt(0, 2), 0, nil, impl.Done},
		{at(hasMessages(), waitedFor(keeps(1, most, nil, 1, fresh(0, most)), []int{0}, nil)), m, 0, map[int]impl.Ring{0: oneRead()}, legAt(0, 2), 0, nil, impl.Done},
		{at(hasMessages(), keeps(3, most-1, nil, 0)), m, 0, map[int]impl.Ring{0: oneRead(), 2: full}, legAt(0, 2), 1, nil, impl.Done},
	})
	// Moved is at most MaxSent.
	for _, n := range []int{most - 1, most} {
		full := m
		full.Moved = n
		checkForwards(t, []forwardCase{
			{at(hasMessages(), quiet), full, 0, map[int]impl.Ring{0: oneRead(), 2: keeps(3, 5, nil, 0)}, legAt(0, 2), most - n, nil, impl.Done},
			{at(hasMessages(), closed), full, 0, map[int]impl.Ring{0: oneRead()}, legAt(0, 2), 0, nil, impl.Done},
		})
	}
}

func TestForwardOfALoss(t *testing.T) {
	lostThree := impl.Sub{Id: 2, Start: 1, Cursor: 4, Lost: 3}
	behind := map[int]impl.Ring{0: keeps(2, 6, nums(5, 6), 3, lostThree)}
	list := atNames(hasLost(), hasMessages(), twoWait())
	var cases []forwardCase
	for _, x := range [][2]int{{0, 3}, {1, 4}, {most - 4, most - 1}, {most - 3, most}, {most - 2, most}, {most - 1, most}, {most, most}} {
		before, after := impl.Leg{Topic: 0, Id: 2, Lost: x[0]}, impl.Leg{Topic: 0, Id: 2, Lost: x[1]}
		m := impl.Merge{Legs: []impl.Leg{legAt(1, 2), before}, Into: 2, Moved: 7}
		cases = append(cases, forwardCase{list, m, 1, behind, after, 0, nil, impl.Done})
	}
	checkForwards(t, cases)
	closed := atNames(closedRing(hasLost()), hasMessages(), closedRing(keeps(1, 0, nil, 0)))
	far := atNames(keeps(1, most, nums(4), 3, fresh(2, 0)), keeps(1, 0, nil, 0))
	checkForwards(t, []forwardCase{
		{closed, mergeInto(2, legAt(0, 2)), 0, map[int]impl.Ring{0: closedRing(behind[0])}, impl.Leg{Topic: 0, Id: 2, Lost: 3}, 0, nil, impl.Done},
		{far, mergeInto(1, legAt(0, 2)), 0, map[int]impl.Ring{0: keeps(1, most, nums(4), 3, impl.Sub{Id: 2, Cursor: most - 1, Lost: most - 1})}, impl.Leg{Topic: 0, Id: 2, Lost: most - 1}, 0, nil, impl.Done},
		{far, mergeInto(1, impl.Leg{Topic: 0, Id: 2, Lost: most}), 0, map[int]impl.Ring{0: keeps(1, most, nums(4), 3, impl.Sub{Id: 2, Cursor: most - 1, Lost: most - 1})}, impl.Leg{Topic: 0, Id: 2, Lost: most}, 0, nil, impl.Done},
	})
}

// TestForwardOfTheEnd has a Leg whose topic is closed and read as the first, in the middle and as the last one of all that is over.
func TestForwardOfTheEnd(t *testing.T) {
	gone := map[int]impl.Ring{0: closedRing(keeps(2, 6, nil, 3))}
	closed := closedRing(waitedFor(keeps(3, 4, nil, 2, fresh(0, 4), fresh(1, 4, bare(3))), nil, []int{1, 0}))
	andClosed := map[int]impl.Ring{0: gone[0], 3: closed}
	both := hits([2]int{3, 1}, [2]int{3, 0})
	list := atNames(isRead(), hasNone(), isRead(), twoWait())
	passes := atNames(closedRing(keeps(2, 6, nums(5, 6), 3, fresh(2, 4, bare(3)))), hasNone(), isRead(), twoWait())
	others := atNames(closedRing(waitedFor(keeps(2, 6, nums(6), 9, fresh(2, 6), fresh(4, 5), fresh(7, 6)), nil, []int{7})), hasNone(), isRead(), twoWait())
	lone := map[int]impl.Ring{0: closedRing(waitedFor(keeps(2, 6, nums(6), 9, fresh(4, 5), fresh(7, 6)), nil, []int{7})), 3: closed}
	shut, told := atNames(isRead(), hasNone(), isRead(), closed), waitedFor(keeps(3, 4, nil, 3, fresh(0, 4), fresh(1, 4), fresh(2, 4)), []int{1}, []int{2, 0})
	lost := impl.Leg{Topic: 0, Id: 2, Lost: 9}
	overLost := impl.Leg{Topic: 0, Id: 2, Lost: 9, Over: true}
	full := atNames(isRead(), hasNone(), isRead(), keeps(3, most, nil, 0))
	checkForwards(t, []forwardCase{
		// Another one is not over yet, though it waits, or though it is closed and read, too: nothing is closed.
		{list, mergeInto(3, legAt(0, 2), legAt(1, 2)), 0, gone, overAt(0, 2), 0, nil, impl.Done},
		{list, mergeInto(3, legAt(1, 2), legAt(0, 2)), 1, gone, overAt(0, 2), 0, nil, impl.Done},
		{list, mergeInto(3, legAt(0, 2), legAt(2, 2)), 0, gone, overAt(0, 2), 0, nil, impl.Done},
		{list, mergeInto(3, legAt(2, 2), legAt(0, 2)), 1, gone, overAt(0, 2), 0, nil, impl.Done},
		{list, mergeInto(3, overAt(1, 0), legAt(0, 2), legAt(2, 2)), 1, gone, overAt(0, 2), 0, nil, impl.Done},
		{list, mergeInto(3, legAt(2, 2), legAt(0, 2), overAt(1, 0)), 1, gone, overAt(0, 2), 0, nil, impl.Done},
		{list, mergeInto(3, legAt(2, 2), overAt(1, 0), legAt(0, 2)), 2, gone, overAt(0, 2), 0, nil, impl.Done},
		// It is the last one that is over.
		{list, mergeInto(3, legAt(0, 2)), 0, andClosed, overAt(0, 2), 0, both, impl.Done},
		{list, mergeInto(3, overAt(1, 0), legAt(0, 2)), 1, andClosed, overAt(0, 2), 0, both, impl.Done},
		{list, mergeInto(3, legAt(0, 2), overAt(1, 0)), 0, andClosed, overAt(0, 2), 0, both, impl.Done},
		{list, mergeInto(3, overAt(1, 0), legAt(0, 2), overAt(2, 2)), 1, andClosed, overAt(0, 2), 0, both, impl.Done},
		{list, impl.Merge{Legs: []impl.Leg{overAt(2, 2), lost}, Into: 3, Moved: most}, 1, andClosed, overLost, 0, both, impl.Done},
		{passes, mergeInto(3, overAt(1, 0), legAt(0, 2)), 1, andClosed, overAt(0, 2), 0, both, impl.Done},
		{others, mergeInto(3, legAt(0, 2)), 0, lone, overAt(0, 2), 0, both, impl.Done},
		{atNames(isRead(), told), mergeInto(1, legAt(0, 2)), 0, map[int]impl.Ring{0: gone[0], 1: closedRing(waitedFor(told, nil, []int{2, 0, 1}))}, overAt(0, 2), 0, hits([2]int{1, 1}), impl.Done},
		{full, mergeInto(3, legAt(0, 2)), 0, map[int]impl.Ring{0: gone[0], 3: closedRing(full[3].Ring)}, overAt(0, 2), 0, nil, impl.Done},
		// It is closed already.
		{shut, mergeInto(3, legAt(0, 2)), 0, gone, overAt(0, 2), 0, nil, impl.Done},
		{shut, mergeInto(3, legAt(0, 2), legAt(1, 2)), 0, gone, overAt(0, 2), 0, nil, impl.Done},
	})
}

func TestForwardThatIsRefused(t *testing.T) {
	list := atNames(hasMessages(), hasNone(), hasOthers(), isRead(), twoWait())
	m := mergeInto(4, legAt(0, 2), legAt(1, 2), legAt(2, 2), overAt(3, 2), overAt(3, 0))
	wrong := m
	m.Legs = m.Legs[:4]
	var cases []forwardCase
	for _, at := range []int{-1, 4, 5, 6, 100, math.MinInt, math.MaxInt, 3} {
		cases = append(cases, forwardCase{list, m, at, nil, impl.Leg{}, 0, nil, impl.None})
	}
	for _, at := range []int{1, 2} {
		cases = append(cases, forwardCase{list, m, at, nil, impl.Leg{}, 0, nil, impl.Waits})
	}
	all := mergeInto(4, overAt(0, 2), overAt(3, 2))
	cases = append(cases, forwardCase{list, all, 0, nil, impl.Leg{}, 0, nil, impl.None}, forwardCase{list, all, 1, nil, impl.Leg{}, 0, nil, impl.None}, forwardCase{list, all, 2, nil, impl.Leg{}, 0, nil, impl.None})
	// Of a wrong one Bad is named first, whatever the leg is.
	for _, at := range []int{-1, 0, 1, 3, 4, 5, math.MaxInt} {
		cases = append(cases, forwardCase{list, wrong, at, nil, impl.Leg{}, 0, nil, impl.Bad}, forwardCase{list, impl.Merge{}, at, nil, impl.Leg{}, 0, nil, impl.Bad}, forwardCase{nil, m, at, nil, impl.Leg{}, 0, nil, impl.Bad}, forwardCase{list, impl.Merge{Legs: m.Legs, Into: 4, Moved: -1}, at, nil, impl.Leg{}, 0, nil, impl.Bad}, forwardCase{list, mergeInto(0, m.Legs...), at, nil, impl.Leg{}, 0, nil, impl.Bad})
	}
	checkForwards(t, cases)
}
