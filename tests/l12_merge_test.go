package tests

import (
	"fmt"
	"math"
	"runtime"
	"slices"
	"sync"
	"testing"

	"loop.example/g00098/impl"
)

func cloneMerge(m impl.Merge) impl.Merge {
	m.Legs = slices.Clone(m.Legs)
	return m
}

var fillLeg = impl.Leg{Topic: filler, Id: filler, Lost: filler}

// mergeIsRight takes each topic out of those that are free: what is asked for once more is not there.
func mergeIsRight(list []impl.Topic, m impl.Merge) bool {
	if !topicsAreRight(list) || len(m.Legs) == 0 || len(m.Legs) > 6 || m.Moved < 0 || m.Moved > most {
		return false
	}
	free := map[int]bool{}
	for i := range list {
		free[i] = i != m.Into
	}
	if _, there := free[m.Into]; !there {
		return false
	}
	for _, leg := range m.Legs {
		if !free[leg.Topic] || leg.Lost < 0 || leg.Lost > most {
			return false
		}
		free[leg.Topic] = false
		if !leg.Over && readerRefusal(list[leg.Topic].Ring, leg.Id) != impl.Done {
			return false
		}
	}
	return true
}

// hasToWait is asked of a Leg of a right merge.
func hasToWait(list []impl.Topic, leg impl.Leg) bool {
	r := list[leg.Topic].Ring
	return !r.Closed && len(tellings(r, leg.Id)) == 0
}

func readyBy(list []impl.Topic, m impl.Merge) []int {
	var numbers []int
	if !mergeIsRight(list, m) {
		return numbers
	}
	for i, leg := range m.Legs {
		if !leg.Over && !hasToWait(list, leg) {
			numbers = append(numbers, i)
		}
	}
	return numbers
}

// mergeAnswer has what OpenMerge and Forward answer.
type mergeAnswer struct {
	list []impl.Topic
	m    impl.Merge
	told []impl.Hit
	code int
}

func sameMergeAnswer(a mergeAnswer, b mergeAnswer) bool {
	return sameTopics(a.list, b.list) && sameMerge(a.m, b.m) && slices.Equal(a.told, b.told) && a.code == b.code
}

func openMergeOf(list []impl.Topic, from []int, into int, f []impl.Term) mergeAnswer {
	var a mergeAnswer
	a.list, a.m, a.code = impl.OpenMerge(list, from, into, f)
	return a
}

func forwardOf(list []impl.Topic, m impl.Merge, leg int) mergeAnswer {
	var a mergeAnswer
	a.list, a.m, a.told, a.code = impl.Forward(list, m, leg)
	return a
}

// openMergeBy asks for Legs that are Over, which ask for no Sub, to see whether the numbers are right.
func openMergeBy(list []impl.Topic, from []int, into int, f []impl.Term) mergeAnswer {
	refused := mergeAnswer{list: cloneTopics(list), code: impl.Bad}
	plan := impl.Merge{Into: into}
	for _, number := range from {
		plan.Legs = append(plan.Legs, overAt(number, 0))
	}
	if !mergeIsRight(list, plan) || !filterIsRight(f) {
		return refused
	}
	want := mergeAnswer{list: cloneTopics(list), m: impl.Merge{Into: into}}
	for _, number := range from {
		r := &want.list[number].Ring
		switch {
		case r.Closed:
			refused.code = impl.Over
			return refused
		case len(r.Subs) == 12, r.Next == most:
			refused.code = impl.Full
			return refused
		}
		want.m.Legs = append(want.m.Legs, legAt(number, r.Next))
		r.Subs = append(r.Subs, fresh(r.Next, r.Sent, f...))
		r.Next++
	}
	return want
}

func hitsIn(number int, ids []int) []impl.Hit {
	var list []impl.Hit
	for _, id := range ids {
		list = append(list, impl.Hit{Topic: number, Id: id})
	}
	return list
}

func forwardBy(list []impl.Topic, m impl.Merge, leg int) mergeAnswer {
	want := mergeAnswer{list: cloneTopics(list), m: cloneMerge(m)}
	switch {
	case !mergeIsRight(list, m):
		want.code = impl.Bad
	case leg < 0, leg >= len(m.Legs), m.Legs[leg].Over:
		want.code = impl.None
	case hasToWait(list, m.Legs[leg]):
		want.code = impl.Waits
	default:
		want.told = hitsIn(m.Into, moveBy(&want, leg))
	}
	return want
}

// moveBy moves a Leg that is ready on, and tells who is told by it.
func moveBy(a *mergeAnswer, leg int) []int {
	x := &a.m.Legs[leg]
	from, into := &a.list[x.Topic].Ring, &a.list[a.m.Into].Ring
	tells, _ := pullBy(from, x.Id, 1)
	if len(tells) == 0 {
		x.Over = true
		from.Subs = slices.DeleteFunc(from.Subs, func(s impl.Sub) bool { return s.Id == x.Id })
		trim(from)
		return closeBehind(a.m.Legs, into)
	}
	if tells[0].Kind == 2 {
		if x.Lost += tells[0].N; x.Lost > most {
			x.Lost = most
		}
		return nil
	}
	sent := sendBy(*into, tells[0].Msg)
	*into = sent.r
	if sent.code == impl.Done && a.m.Moved < most {
		a.m.Moved++
	}
	return sent.list
}

// closeBehind closes a ring when all Legs are over, and tells who waited there.
func closeBehind(legs []impl.Leg, into *impl.Ring) []int {
	for _, leg := range legs {
		if !leg.Over {
			return nil
		}
	}
	told := into.Line
	into.Closed, into.Line, into.Grants = true, nil, append(into.Grants, told...)
	return told
}

// mergeGiven is what was handed in, and how it was ahead of the call.
type mergeGiven struct {
	topicsGiven
	m    impl.Merge
	legs []impl.Leg
}

func giveMerge(list []impl.Topic, m impl.Merge) mergeGiven {
	g := mergeGiven{topicsGiven: giveTopics(list), m: m, legs: slices.Clone(m.Legs)}
	g.m.Legs = roomyWith(m.Legs, fillLeg)
	return g
}

func (g mergeGiven) checkKept(t *testing.T, what string) {
	t.Helper()
	g.topicsGiven.checkKept(t, what)
	if !roomKeptWith(g.m.Legs, g.legs, fillLeg) {
		t.Fatalf("%s: the Legs that were handed in have changed: %s", what, brief(g.legs))
	}
}

// mergePlaces is where a number can be laid into the lists of an answer, and into the room behind them.
func mergePlaces(a mergeAnswer) []*int {
	places := topicPlaces(a.list, a.told)
	room := a.m.Legs[:cap(a.m.Legs)]
	for i := range room {
		places = append(places, &room[i].Lost)
	}
	return places
}

// checkMergeAnswer holds an answer against the one that is wanted. Then it lays numbers into all places of the answer: where one is shared with what was handed in, that has changed.
func (g mergeGiven) checkMergeAnswer(t *testing.T, what string, got mergeAnswer, want mergeAnswer) {
	t.Helper()
	if !sameMergeAnswer(got, want) {
		t.Fatalf("%s of %s, %s\n= %s\nwant %s", what, brief(g.m), brief(g.list), brief(got), brief(want))
	}
	g.checkKept(t, what)
	if !lieApart(mergePlaces(got)) {
		t.Fatalf("%s: two lists of the answer share memory: %s", what, brief(g.before))
	}
	g.checkKept(t, what)
}

// checkMerge asks every function but OpenMerge at a merge. What was handed in is the same for all of them, as none may change it.
func checkMerge(t *testing.T, list []impl.Topic, m impl.Merge, legs ...int) {
	t.Helper()
	g := giveMerge(list, m)
	if ok := impl.MergeOk(g.list, g.m); ok != mergeIsRight(list, m) {
		t.Fatalf("MergeOk(%s, %s) = %v", brief(list), brief(m), ok)
	}
	g.checkKept(t, "MergeOk")
	if ready := impl.Ready(g.list, g.m); !slices.Equal(ready, readyBy(list, m)) {
		t.Fatalf("Ready(%s, %s) = %v", brief(list), brief(m), ready)
	}
	g.checkKept(t, "Ready")
	for _, leg := range legs {
		g.checkMergeAnswer(t, fmt.Sprint("Forward of ", leg), forwardOf(g.list, g.m, leg), forwardBy(list, m, leg))
	}
}

// checkEachLeg asks for all Legs, and for some that there are not.
func checkEachLeg(t *testing.T, list []impl.Topic, m impl.Merge) {
	t.Helper()
	legs := []int{math.MinInt, -1, len(m.Legs), len(m.Legs) + 1, math.MaxInt}
	for i := range min(len(m.Legs), 7) {
		legs = append(legs, i)
	}
	checkMerge(t, list, m, legs...)
}

func checkOpenMerge(t *testing.T, list []impl.Topic, from []int, into int, f []impl.Term) {
	t.Helper()
	g, numbers, terms := giveMerge(list, impl.Merge{}), roomy(from), roomyWith(f, fillTerm)
	got := openMergeOf(g.list, numbers, into, terms)
	what := fmt.Sprintf("OpenMerge from %s into %d, %s", brief(from), into, brief(f))
	g.checkMergeAnswer(t, what, got, openMergeBy(list, from, into, f))
	if !roomKeptWith(numbers, from, filler) || !roomKeptWith(terms, f, fillTerm) {
		t.Fatalf("%s: what was handed in has changed", what)
	}
}

// readersOf are the Ids that can read a right ring.
func readersOf(r impl.Ring) []int {
	var ids []int
	for _, s := range r.Subs {
		if readerRefusal(r, s.Id) == impl.Done {
			ids = append(ids, s.Id)
		}
	}
	return ids
}

// sideLegs are what stands beside a Leg: nothing, some that are over, some that wait, some that are ready; they take of the topics from the number at on.
func sideLegs(at int) [][]impl.Leg {
	return [][]impl.Leg{nil, {overAt(at, 0)}, {legAt(at, 2)}, {legAt(at+1, 2)}, {overAt(at, 2), overAt(at+1, -1), overAt(at+2, 2)}, {overAt(at+2, 0), legAt(at, 2)}, {legAt(at+1, 2), legAt(at, 2), legAt(at+2, 2)}}
}

// sideRings are what sideLegs take of: one waits, one is ready, one is closed and read.
func sideRings() []impl.Ring { return []impl.Ring{hasNone(), hasMessages(), isRead()} }

// TestEachRingAMergeTakesOf has each Sub of many rings that can read as a Leg of a merge.
func TestEachRingAMergeTakesOf(t *testing.T) {
	intos := []impl.Ring{keeps(1, 0, nil, 0), twoWait(), fiveMoved(), closedRing(keeps(2, 4, nums(3, 4), 1, fresh(0, 2))), keeps(2, 4, nums(3, 4), 1, fresh(0, 2)), keeps(3, most, nil, 0), keeps(3, most-1, nil, 0)}
	counts := []int{0, 1, 5, most - 1, most}
	n := 0
	for i, r := range rightRings() {
		if i%2 == 1 {
			continue
		}
		for j, id := range readersOf(r) {
			list := atNames(append([]impl.Ring{intos[(i/2+j)%len(intos)], r}, sideRings()...)...)
			legs := sideLegs(2)[n%7]
			at := n / 7 % (len(legs) + 1)
			leg := impl.Leg{Topic: 1, Id: id, Lost: counts[n%5]}
			m := impl.Merge{Legs: slices.Concat(legs[:at], []impl.Leg{leg}, legs[at:]), Moved: counts[n/3%5]}
			checkMerge(t, list, m, at, len(m.Legs)-1, len(m.Legs))
			n++
		}
	}
	if n < 1000 {
		t.Error("these are too few", n)
	}
}

// TestEachRingAMergeGivesTo has many rings as what a message is moved into, and as what is closed behind the last Leg that is over.
func TestEachRingAMergeGivesTo(t *testing.T) {
	for i, r := range rightRings() {
		if i%2 == 0 {
			continue
		}
		list := atNames(append(sideRings(), r)...)
		checkMerge(t, list, impl.Merge{Legs: []impl.Leg{legAt(1, 2), overAt(0, 2)}, Into: 3, Moved: i}, 0)
		checkMerge(t, list, mergeInto(3, overAt(1, 2), legAt(2, 2)), 1)
		checkMerge(t, list, mergeInto(3, legAt(2, 2), legAt(1, 2)), 0)
	}
}

// legsOfEachKind is what a merge of the topics from 1 on can have: each one not at all, over, or with its Sub.
func legsOfEachKind(n int, visit func(legs []impl.Leg)) {
	eachList([]int{0, 1, 2}, n, func(kinds []int) {
		if len(kinds) < n {
			return
		}
		var legs []impl.Leg
		for i, kind := range kinds {
			switch kind {
			case 1:
				legs = append(legs, overAt(i+1, 2))
			case 2:
				legs = append(legs, legAt(i+1, 2))
			}
		}
		visit(legs)
	})
}

// TestEachSetOfLegs has all sets of Legs of six topics, over or not, turned about by some places.
func TestEachSetOfLegs(t *testing.T) {
	list := atNames(twoWait(), hasMessages(), isRead(), hasNone(), hasLost(), isRead(), hasOthers())
	n := 0
	legsOfEachKind(6, func(legs []impl.Leg) {
		if len(legs) > 0 {
			turn := n % len(legs)
			checkEachLeg(t, list, mergeInto(0, slices.Concat(legs[turn:], legs[:turn])...))
		}
		n++
	})
	if n != 729 {
		t.Error("how many sets", n)
	}
}

// mergeBases are right merges out of which wrong ones are made.
func mergeBases() []mergeAnswer {
	stands := waitedFor(keeps(2, 6, nil, 9, fresh(2, 6), fresh(4, 6), fresh(7, 6)), []int{4}, []int{7})
	list := atNames(twoWait(), hasMessages(), isRead(), stands, hasLost(), hasNone(), hasOthers(), keeps(1, 0, nil, 0))
	return []mergeAnswer{
		{list: list, m: impl.Merge{Legs: []impl.Leg{legAt(1, 2)}}},
		{list: list, m: impl.Merge{Legs: []impl.Leg{legAt(3, 2), overAt(2, 2), {Topic: 4, Id: 2, Lost: 8}}, Moved: 12}},
		{list: list, m: impl.Merge{Legs: []impl.Leg{legAt(6, 2), legAt(5, 2), {Topic: 4, Id: 2, Lost: most}, overAt(3, 0), legAt(2, 2), legAt(1, 2)}, Into: 7, Moved: most}},
	}
}

// mergeFaults makes merges that are wrong for one reason each out of a right one.
func mergeFaults(m impl.Merge, topics int) []impl.Merge {
	var list []impl.Merge
	fault := func(change func(m *impl.Merge)) {
		x := cloneMerge(m)
		change(&x)
		list = append(list, x)
	}
	for _, n := range []int{math.MinInt, -1, most + 1, math.MaxInt} {
		fault(func(m *impl.Merge) { m.Moved = n })
		for i := range m.Legs {
			fault(func(m *impl.Merge) { m.Legs[i].Lost = n })
		}
	}
	for _, n := range []int{math.MinInt, -1, topics, topics + 1, math.MaxInt} {
		fault(func(m *impl.Merge) { m.Into = n })
		for i := range m.Legs {
			fault(func(m *impl.Merge) { m.Legs[i].Topic = n })
		}
	}
	for i, leg := range m.Legs {
		fault(func(m *impl.Merge) { m.Into = leg.Topic })
		fault(func(m *impl.Merge) { m.Legs[i].Topic = m.Into })
		for j := range i {
			fault(func(m *impl.Merge) { m.Legs[i].Topic = m.Legs[j].Topic })
			fault(func(m *impl.Merge) { m.Legs[j].Topic = m.Legs[i].Topic })
		}
		for _, id := range []int{math.MinInt, -1, 0, 1, 3, 4, 7, math.MaxInt} {
			if !leg.Over {
				fault(func(m *impl.Merge) { m.Legs[i].Id = id })
			}
		}
	}
	fault(func(m *impl.Merge) { m.Legs = nil })
	fault(func(m *impl.Merge) { m.Legs = append(m.Legs, m.Legs[0]) })
	fault(func(m *impl.Merge) { m.Legs = slices.Repeat(m.Legs, 3) })
	fault(func(m *impl.Merge) { m.Legs = slices.Repeat(m.Legs, 30000) })
	return append(list, impl.Merge{})
}

// TestWrongMerges has its answers written out: nothing is ready, list and merge are handed back, nobody is told, and Bad.
func TestWrongMerges(t *testing.T) {
	check := func(list []impl.Topic, m impl.Merge) {
		t.Helper()
		if impl.MergeOk(list, m) || len(impl.Ready(list, m)) != 0 {
			t.Fatal("right", brief(list), brief(m))
		}
		for _, leg := range []int{-1, 0, len(m.Legs) - 1, len(m.Legs)} {
			if a := forwardOf(list, m, leg); !sameMergeAnswer(a, mergeAnswer{list: list, m: m, code: impl.Bad}) {
				t.Fatal("forward", brief(list), brief(m), leg, brief(a))
			}
		}
	}
	for _, x := range mergeBases() {
		if !impl.MergeOk(x.list, x.m) {
			t.Fatal("not right", brief(x))
		}
		checkEachLeg(t, x.list, x.m)
		for _, m := range mergeFaults(x.m, len(x.list)) {
			check(x.list, m)
			if len(m.Legs) < 1000 {
				checkEachLeg(t, x.list, m)
			}
		}
		check(nil, x.m)
		for _, list := range wrongLists() {
			if len(list) < 1000 {
				check(list, x.m)
			}
		}
	}
}

// TestMergesOfWrongRings has a wrong ring as what is taken of, as what is given to, and beside both.
func TestMergesOfWrongRings(t *testing.T) {
	for i, r := range wrongRings() {
		if len(r.Items)+len(r.Subs)+len(r.Line)+len(r.Grants) > 1000 {
			continue
		}
		rings := []impl.Ring{hasMessages(), twoWait(), hasLost(), r}
		at := i % 4
		rings[3], rings[at] = rings[at], rings[3]
		m := mergeInto(1, legAt(0, 2))
		if at == 0 && len(r.Subs) > 0 {
			m.Legs[0].Id = r.Subs[i%len(r.Subs)].Id
		}
		checkMerge(t, atNames(rings...), m, 0, 1)
		checkOpenMerge(t, atNames(rings...), []int{0, 2}, 1, nil)
	}
}

// TestEveryFewNumbersToMerge goes through all lists of up to three numbers and each number to merge into, right and wrong, at topics of which some refuse.
func TestEveryFewNumbersToMerge(t *testing.T) {
	many := ringOf(2, 3, subsBehind(3, 1, 0, 1, 2, 0, 0, 0, 0, 0, 0, 0, 0, 0)...)
	lists := [][]impl.Topic{nil, atNames(keeps(1, 0, nil, 0)), atNames(hasMessages(), twoWait(), keeps(1, 0, nil, 0), fiveMoved()), atNames(twoWait(), isRead(), many, keeps(2, 3, nil, most)), atNames(hasMessages(), hasMessages(), closedRing(many), keeps(2, 3, nil, most-1))}
	filters := [][]impl.Term{nil, allOf(bare(2)), allOf(bare(0))}
	n := 0
	eachList([]int{-1, 0, 1, 2, 3, 4}, 3, func(from []int) {
		for into := -1; into <= 4; into++ {
			for _, list := range lists {
				checkOpenMerge(t, list, from, into, filters[n%3])
				n++
			}
		}
	})
	for _, list := range wrongTopicLists() {
		checkOpenMerge(t, list, []int{0}, 1, nil)
		checkOpenMerge(t, list, []int{0}, 1, allOf(bare(0)))
	}
}

// TestOpenMergeOfEachRing opens merges at rings of each kind, as the first, in the middle and as the last, and into them.
func TestOpenMergeOfEachRing(t *testing.T) {
	filters := append(subFilters(), wrongFilters()...)
	for i, r := range rightRings() {
		if i%3 != 0 {
			continue
		}
		list := atNames(hasMessages(), r, twoWait(), keeps(1, 0, nil, 0))
		from := [][]int{{1}, {1, 0}, {0, 1, 2}, {2, 0, 1}, {0, 2}}[i/3%5]
		into := 3
		if len(from) == 2 && from[1] == 2 {
			into = 1
		}
		checkOpenMerge(t, list, from, into, filters[i%8])
		if i%9 == 0 {
			checkOpenMerge(t, list, from, into, filters[i/9%len(filters)])
		}
	}
}

// mergeAnswers are of the calls that answer topics.
func mergeAnswers(list []impl.Topic, m impl.Merge, from []int, f []impl.Term) []mergeAnswer {
	answers := []mergeAnswer{openMergeOf(list, from, m.Into, f), openMergeOf(list, from, m.Into, allOf(bare(0))), openMergeOf(list, []int{m.Into}, m.Into, f)}
	for leg := -1; leg <= len(m.Legs); leg++ {
		answers = append(answers, forwardOf(list, m, leg))
	}
	return answers
}

// TestMergesThatShareTheirLists hands in topics that have one ring in common, and a merge that has a part of a longer list: no two lists of an answer may share memory, nor one of them with what was handed in.
func TestMergesThatShareTheirLists(t *testing.T) {
	terms := allOf(bare(1), bare(2), bare(10), fillTerm)
	subs := []impl.Sub{reads(0, 2, 6), reads(1, 0, 9), reads(3, 1, 4), reads(4, 9, 9), reads(5, 3, 9), fillSub}
	for i := range subs {
		subs[i].Filter = terms[:3]
	}
	ids := []int{1, 4, 9, 9}
	r := impl.Ring{Cap: 3, Sent: 9, Items: append(sentFrom(6, 9), fillMsg)[:3], Next: 8, Subs: subs[:5], Line: ids[:1], Grants: ids[1:2]}
	closed := closedRing(waitedFor(r, nil, ids[:2]))
	list := topics(topic("a", r), topic("b", r), topic("c", closed), topic("d", r), topic("e", closed), topic("f", r), topic("a", r), topic("", r))
	legs := []impl.Leg{legAt(0, 0), legAt(1, 3), legAt(2, 5), legAt(3, 5), overAt(4, 5), legAt(4, 5), legAt(4, 5), fillLeg}
	from := []int{0, 1, 3, 6, 7}
	keptList, keptLegs, keptFrom, keptTerms := wholeTopics(list), slices.Clone(legs), slices.Clone(from), slices.Clone(terms)
	for _, m := range []impl.Merge{mergeInto(5, legs[:5]...), mergeInto(5, legs[:4]...), mergeInto(5, legs[2:3]...), mergeInto(5, legs[4:6]...), mergeInto(1, legs[2:4]...)} {
		for _, given := range [][]impl.Topic{list[:6], list[:7]} {
			want := mergeAnswers(cloneTopics(given), cloneMerge(m), slices.Clone(from[:3]), slices.Clone(terms[:3]))
			for i, a := range mergeAnswers(given, m, from[:3], terms[:3]) {
				if !sameMergeAnswer(a, want[i]) {
					t.Fatal("answer", i, m, brief(a), brief(want[i]))
				}
				if !lieApart(mergePlaces(a)) {
					t.Fatal("two lists of the answer share memory", i, m)
				}
				if !sameTopics(wholeTopics(list), keptList) || !slices.Equal(legs, keptLegs) || !slices.Equal(from, keptFrom) || !slices.Equal(terms, keptTerms) {
					t.Fatal("what was handed in has changed", i, m)
				}
			}
		}
	}
}

// TestMergesKeepNothing spoils what is answered and asks once more.
func TestMergesKeepNothing(t *testing.T) {
	for _, x := range mergeBases() {
		for _, m := range append(mergeFaults(x.m, len(x.list)), x.m) {
			if len(m.Legs) > 1000 {
				continue
			}
			var kept []mergeAnswer
			ready := impl.Ready(x.list, m)
			keptReady := slices.Clone(ready)
			for _, a := range mergeAnswers(x.list, m, []int{1, 3}, nil) {
				kept = append(kept, mergeAnswer{list: cloneTopics(a.list), m: cloneMerge(a.m), told: slices.Clone(a.told), code: a.code})
				for _, p := range mergePlaces(a) {
					*p += 1000003
				}
			}
			spoilWith(ready, func(n int) int { return n + 1000003 })
			again := mergeAnswers(x.list, m, []int{1, 3}, nil)
			for j := range kept {
				if !sameMergeAnswer(again[j], kept[j]) {
					t.Fatal("another one the second time", brief(x), brief(m), j)
				}
			}
			if !slices.Equal(impl.Ready(x.list, m), keptReady) {
				t.Fatal("another one the second time", brief(x), brief(m))
			}
		}
	}
}

// manyLegs is a merge of as many Legs as there can be, ready and not by turns, and its topics.
func manyLegs() ([]impl.Topic, impl.Merge) {
	list := atNames(hasNone(), hasMessages(), isRead(), hasOthers(), hasLost(), hasNone(), twoWait())
	return list, mergeInto(6, legAt(0, 2), legAt(1, 2), legAt(2, 2), legAt(3, 2), legAt(4, 2), legAt(5, 2))
}

// TestMergesAnswerTheSame asks again and again, with one thread and with several, and from many callers at one time.
func TestMergesAnswerTheSame(t *testing.T) {
	list, m := manyLegs()
	want := mergeAnswers(list, m, []int{0, 1, 3}, nil)
	ask := func() {
		if ready := impl.Ready(list, m); !slices.Equal(ready, []int{1, 2, 4}) {
			t.Error("ready", ready)
		}
		for i, a := range mergeAnswers(list, m, []int{0, 1, 3}, nil) {
			if !sameMergeAnswer(a, want[i]) {
				t.Error("answer", i, a)
			}
		}
	}
	threads := runtime.GOMAXPROCS(0)
	defer runtime.GOMAXPROCS(threads)
	for _, n := range []int{1, 2, threads} {
		runtime.GOMAXPROCS(n)
		for range 200 {
			ask()
		}
		var callers sync.WaitGroup
		for range 16 {
			callers.Go(func() {
				for range 20 {
					ask()
				}
			})
		}
		callers.Wait()
	}
}

// TestMergesLeaveNobodyBehind: no goroutine is left that waits for somebody to take what it has read.
func TestMergesLeaveNobodyBehind(t *testing.T) {
	list, m := manyLegs()
	before := runtime.NumGoroutine()
	for range 100 {
		impl.Ready(list, m)
		mergeAnswers(list, m, []int{0, 1}, nil)
	}
	// One that is joined may still be on its way out.
	for i := 0; runtime.NumGoroutine() > before && i < 1000000; i++ {
		runtime.Gosched()
	}
	if n := runtime.NumGoroutine(); n > before {
		t.Error("left behind", n-before)
	}
}
