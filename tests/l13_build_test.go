package tests

import (
	"math"
	"slices"
	"strings"
	"testing"

	"loop.example/g00098/impl"
)

// handPlan has a hub of each thing some.
func handPlan() impl.Plan {
	return impl.Plan{
		Tokens: []int{-1, 0, -1, 1}, Notes: 2, Autos: []bool{true, false, true}, Counts: []int{0, 5, most}, Vals: []impl.Msg{num(3), text("ab")}, Names: []string{"a", "a.b", "c"}, Caps: []int{1, 16, 4},
		Weaves: []impl.Weave{{From: []int{0, 1}, Into: 2}, {From: []int{2}, Into: 0, Filter: allOf(bare(2))}, {From: []int{1}, Into: 2}}, Users: 3,
	}
}

func TestBuildByHand(t *testing.T) {
	h, code, place := impl.Build(handPlan())
	want := impl.Hub{
		Tokens: tokens([]int{-1, 0, -1, 1}), Notes: make([]impl.Notify, 2), Events: []impl.Event{{Auto: true}, {}, {Auto: true}}, Latches: []impl.Latch{{}, {Count: 5}, {Count: most}}, Cells: []impl.Cell{openCell(num(3), 0, nil, nil), openCell(text("ab"), 0, nil, nil)},
		Topics: topics(topic("a", keeps(1, 0, nil, 1, fresh(0, 0))), topic("a.b", keeps(16, 0, nil, 2, fresh(0, 0), fresh(1, 0))), topic("c", keeps(4, 0, nil, 1, fresh(0, 0, bare(2))))),
		Merges: []impl.Merge{mergeInto(2, legAt(0, 0), legAt(1, 0)), mergeInto(0, legAt(2, 0)), mergeInto(2, legAt(1, 1))}, Users: users(3, 0, 0),
	}
	if !sameHub(h, want) || code != impl.Done || place != -1 || !impl.HubOk(h) {
		t.Error("built", brief(h), code, place)
	}
	if h, code, place := impl.Build(impl.Plan{}); !sameHub(h, impl.Hub{}) || code != impl.Done || place != -1 || !impl.HubOk(h) {
		t.Error("nothing", brief(h), code, place)
	}
	if h, code, place := impl.Build(impl.Plan{Users: 64}); !sameHub(h, impl.Hub{Users: users(64)}) || code != impl.Done || place != -1 {
		t.Error("users alone", brief(h), code, place)
	}
}

// greatPlan is at each limit.
func greatPlan() impl.Plan {
	p := impl.Plan{Tokens: chain(24), Notes: 8, Autos: slices.Repeat([]bool{true, false}, 4), Counts: slices.Repeat([]int{0, 1, most - 1, most}, 2), Vals: append(cellVals(), num(-1)), Names: twelve(), Users: 64}
	for i := range p.Names {
		p.Caps = append(p.Caps, i%16+1)
	}
	p.Caps[11] = 16
	for i := range 4 {
		p.Weaves = append(p.Weaves, impl.Weave{From: upTo(i, 6), Into: 11 - i%2, Filter: nots(12)})
	}
	return p
}

func TestBuildAtItsLimits(t *testing.T) {
	p := greatPlan()
	h, code, place := impl.Build(p)
	if code != impl.Done || place != -1 || !impl.HubOk(h) || len(h.Tokens.Off) != 24 || len(h.Notes)+len(h.Events)+len(h.Latches)+len(h.Cells) != 32 || len(h.Topics) != 12 || len(h.Merges) != 4 || len(h.Users) != 64 {
		t.Fatal("built", brief(h), code, place)
	}
	for i, change := range []func(p *impl.Plan){
		func(p *impl.Plan) { p.Tokens = apart(25) }, func(p *impl.Plan) { p.Autos = make([]bool, 9) }, func(p *impl.Plan) { p.Counts = make([]int, 9) }, func(p *impl.Plan) { p.Vals = append(p.Vals, num(1)) }, func(p *impl.Plan) { p.Notes = 9 },
		func(p *impl.Plan) { p.Names, p.Caps = append(p.Names, "y"), append(p.Caps, 1) }, func(p *impl.Plan) { p.Weaves = append(p.Weaves, impl.Weave{From: []int{0}, Into: 1}) },
		func(p *impl.Plan) { p.Notes = -1 }, func(p *impl.Plan) { p.Notes = math.MinInt }, func(p *impl.Plan) { p.Notes = math.MaxInt }, func(p *impl.Plan) { p.Users = -1 }, func(p *impl.Plan) { p.Users = 65 }, func(p *impl.Plan) { p.Users = math.MinInt }, func(p *impl.Plan) { p.Users = math.MaxInt },
		func(p *impl.Plan) { p.Caps = p.Caps[:11] }, func(p *impl.Plan) { p.Caps = append(p.Caps, 1) }, func(p *impl.Plan) { p.Caps = nil }, func(p *impl.Plan) { p.Names = nil }, func(p *impl.Plan) { p.Names, p.Caps, p.Weaves = nil, []int{1}, nil },
		func(p *impl.Plan) { p.Tokens = apart(100000) }, func(p *impl.Plan) { p.Names, p.Caps = slices.Repeat(p.Names, 5000), slices.Repeat(p.Caps, 5000) }, func(p *impl.Plan) { p.Weaves = make([]impl.Weave, 100000) },
		// These are Bad at a place, too, but what is too long is looked at first.
		func(p *impl.Plan) { p.Tokens = slices.Repeat([]int{7}, 25) }, func(p *impl.Plan) { p.Tokens[0], p.Users = 5, 65 }, func(p *impl.Plan) { p.Weaves[0].Into, p.Notes = 99, 9 }, func(p *impl.Plan) { p.Names[3], p.Caps = "", p.Caps[:11] },
	} {
		p := clonePlan(greatPlan())
		change(&p)
		if h, code, place := impl.Build(p); !sameHub(h, impl.Hub{}) || code != impl.Bad || place != -1 {
			t.Error("built", i, brief(h), code, place)
		}
	}
}

// buildFault is one place of a plan that is refused, with its code.
type buildFault struct {
	list, place, code int
	change            func(p *impl.Plan)
}

// buildFaults have of each list the first place, one in the middle and the last one.
func buildFaults() []buildFault {
	var list []buildFault
	fault := func(number int, place int, code int, change func(p *impl.Plan)) {
		list = append(list, buildFault{number, place, code, change})
	}
	for _, i := range []int{0, 11, 23} {
		for _, parent := range []int{-2, i, i + 1, 24, math.MinInt, math.MaxInt} {
			fault(0, i, impl.Bad, func(p *impl.Plan) { p.Tokens[i] = parent })
		}
	}
	for _, i := range []int{0, 4, 7} {
		for _, n := range []int{-1, most + 1, math.MinInt, math.MaxInt} {
			fault(1, i, impl.Bad, func(p *impl.Plan) { p.Counts[i] = n })
		}
		for _, m := range []impl.Msg{{}, num(1000000000), text("\n"), text(strings.Repeat("a", 41)), {Kind: 2, Num: 1}} {
			fault(2, i, impl.Bad, func(p *impl.Plan) { p.Vals[i] = m })
		}
	}
	for _, i := range []int{0, 5, 11} {
		for _, s := range []string{"", "a.", "*", ">", "A", strings.Repeat("a", 25)} {
			fault(3, i, impl.Bad, func(p *impl.Plan) { p.Names[i] = s })
		}
		for _, n := range []int{0, -1, 17, math.MaxInt} {
			fault(3, i, impl.Bad, func(p *impl.Plan) { p.Caps[i] = n })
		}
		for j := range i {
			fault(3, i, impl.There, func(p *impl.Plan) { p.Names[i] = p.Names[j] })
			fault(3, i, impl.Bad, func(p *impl.Plan) { p.Names[i], p.Caps[i] = p.Names[j], 0 })
		}
	}
	for i := range 4 {
		for _, from := range [][]int{nil, {}, {0, 0}, {-1}, {12}, {0, 1, 2, 3, 4, 5, 6}, {math.MaxInt}} {
			fault(4, i, impl.Bad, func(p *impl.Plan) { p.Weaves[i].From = from })
		}
		for _, into := range []int{-1, 12, i, i + 5, math.MinInt} {
			fault(4, i, impl.Bad, func(p *impl.Plan) { p.Weaves[i].Into = into })
		}
		fault(4, i, impl.Bad, func(p *impl.Plan) { p.Weaves[i].Filter = allOf(bare(0)) })
		fault(4, i, impl.Bad, func(p *impl.Plan) { p.Weaves[i].Filter = nots(13) })
	}
	return list
}

// TestBuildAtEachPlace has the first list that is refused, and in it the first place.
func TestBuildAtEachPlace(t *testing.T) {
	faults := buildFaults()
	check := func(p impl.Plan, want buildFault) {
		t.Helper()
		if h, code, place := impl.Build(p); !sameHub(h, impl.Hub{}) || code != want.code || place != want.place {
			t.Fatal("built", brief(p), brief(h), code, place, want.list, want.place, want.code)
		}
	}
	for i, x := range faults {
		p := clonePlan(greatPlan())
		x.change(&p)
		check(p, x)
		for j, y := range faults {
			if (i+j)%5 != 0 || y.list < x.list || y.list == x.list && y.place <= x.place {
				continue
			}
			p := clonePlan(greatPlan())
			y.change(&p)
			x.change(&p)
			// What the one takes a name from may be the place of the other.
			if x.list != 3 {
				check(p, x)
			}
			checkBuild(t, p)
		}
	}
}

func clonePlan(p impl.Plan) impl.Plan {
	p.Tokens, p.Autos, p.Counts, p.Vals = slices.Clone(p.Tokens), slices.Clone(p.Autos), slices.Clone(p.Counts), slices.Clone(p.Vals)
	p.Names, p.Caps = slices.Clone(p.Names), slices.Clone(p.Caps)
	p.Weaves = cloneEach(p.Weaves, func(w impl.Weave) impl.Weave {
		w.From, w.Filter = slices.Clone(w.From), slices.Clone(w.Filter)
		return w
	})
	return p
}

func samePlan(a impl.Plan, b impl.Plan) bool {
	weave := func(a impl.Weave, b impl.Weave) bool {
		return a.Into == b.Into && slices.Equal(a.From, b.From) && slices.Equal(a.Filter, b.Filter)
	}
	return a.Notes == b.Notes && a.Users == b.Users && slices.Equal(a.Tokens, b.Tokens) && slices.Equal(a.Autos, b.Autos) && slices.Equal(a.Counts, b.Counts) && slices.Equal(a.Vals, b.Vals) &&
		slices.Equal(a.Names, b.Names) && slices.Equal(a.Caps, b.Caps) && slices.EqualFunc(a.Weaves, b.Weaves, weave)
}

func roomyPlan(p impl.Plan) impl.Plan {
	p.Tokens, p.Autos, p.Counts, p.Vals = roomy(p.Tokens), roomyWith(p.Autos, true), roomy(p.Counts), roomyWith(p.Vals, fillMsg)
	p.Names, p.Caps = roomyWith(p.Names, "filler"), roomy(p.Caps)
	p.Weaves = roomyEach(p.Weaves, impl.Weave{Into: filler}, func(w impl.Weave) impl.Weave {
		w.From, w.Filter = roomy(w.From), roomyWith(w.Filter, fillTerm)
		return w
	})
	return p
}

func wholePlan(p impl.Plan) impl.Plan {
	p.Tokens, p.Autos, p.Counts, p.Vals = roomOf(p.Tokens), roomOf(p.Autos), roomOf(p.Counts), roomOf(p.Vals)
	p.Names, p.Caps = roomOf(p.Names), roomOf(p.Caps)
	p.Weaves = cloneEach(roomOf(p.Weaves), func(w impl.Weave) impl.Weave {
		w.From, w.Filter = roomOf(w.From), roomOf(w.Filter)
		return w
	})
	return p
}

// buildBy makes all things first, and looks for the first place that is refused by itself.
func buildBy(p impl.Plan) (impl.Hub, int, int) {
	if max(len(p.Autos), len(p.Counts), len(p.Vals), p.Notes) > 8 || len(p.Tokens) > 24 || len(p.Names) > 12 || len(p.Weaves) > 4 || p.Notes < 0 || p.Users < 0 || p.Users > 64 || len(p.Caps) != len(p.Names) {
		return impl.Hub{}, impl.Bad, -1
	}
	for i := range p.Tokens {
		if !tokensAreRight(tokens(p.Tokens[:i+1])) {
			return impl.Hub{}, impl.Bad, i
		}
	}
	h := impl.Hub{Tokens: tokens(p.Tokens), Notes: make([]impl.Notify, p.Notes), Users: users(p.Users, make([]int, len(p.Vals))...)}
	for _, auto := range p.Autos {
		h.Events = append(h.Events, impl.Event{Auto: auto})
	}
	for i, n := range p.Counts {
		if h.Latches = append(h.Latches, impl.Latch{Count: n}); !latchIsRight(h.Latches[i]) {
			return impl.Hub{}, impl.Bad, i
		}
	}
	for i, m := range p.Vals {
		if h.Cells = append(h.Cells, impl.Cell{Val: m}); !cellIsRight(h.Cells[i]) {
			return impl.Hub{}, impl.Bad, i
		}
	}
	for i, s := range p.Names {
		a := openBy(h.Topics, s, p.Caps[i])
		if h.Topics = a.list; a.code != impl.Done {
			return impl.Hub{}, a.code, i
		}
	}
	for i, w := range p.Weaves {
		a := openMergeBy(h.Topics, w.From, w.Into, w.Filter)
		if h.Topics, h.Merges = a.list, append(h.Merges, a.m); a.code != impl.Done {
			return impl.Hub{}, a.code, i
		}
	}
	return h, impl.Done, -1
}

func checkBuild(t *testing.T, p impl.Plan) {
	t.Helper()
	given := roomyPlan(p)
	before := clonePlan(wholePlan(given))
	want, wantCode, wantPlace := buildBy(p)
	h, code, place := impl.Build(given)
	if !sameHub(h, want) || code != wantCode || place != wantPlace {
		t.Fatalf("Build(%s)\n= %s, %d, %d\nwant %s, %d, %d", brief(p), brief(h), code, place, brief(want), wantCode, wantPlace)
	}
	if impl.HubOk(h) != (code == impl.Done || sameHub(h, impl.Hub{})) {
		t.Fatal("not right", brief(p), brief(h))
	}
	if !samePlan(wholePlan(given), before) {
		t.Fatal("what was handed in has changed", brief(p))
	}
	if !spoilHub(h) || !samePlan(wholePlan(given), before) {
		t.Fatal("the answer shares memory", brief(p))
	}
}

// TestBuildOfEachKind has plans of each list by itself, right and wrong, long and short.
func TestBuildOfEachKind(t *testing.T) {
	for _, x := range append(rightTokens(), wrongTokens()...) {
		checkBuild(t, impl.Plan{Tokens: x.Parents, Users: 1})
	}
	for n := -2; n <= 10; n++ {
		checkBuild(t, impl.Plan{Notes: n, Users: 2})
		checkBuild(t, impl.Plan{Autos: make([]bool, max(n, 0)), Counts: make([]int, max(n, 0)), Vals: slices.Repeat(nums(4), max(n, 0)), Users: n * 7})
	}
	for users := 60; users <= 67; users++ {
		checkBuild(t, impl.Plan{Users: users, Vals: nums(1, 2)})
	}
	for i, m := range append(rightMsgs(), wrongMsgs()...) {
		checkBuild(t, impl.Plan{Vals: slices.Insert(nums(1, 2, 3), i%4, m), Users: 2})
	}
	for i, s := range slices.Concat(rightNames(), rightPatterns(), wrongTexts()) {
		checkBuild(t, impl.Plan{Names: slices.Insert([]string{"x", "x.y", "a"}, i%4, s), Caps: []int{1, 2, 16, 3}, Users: 1})
	}
	for _, room := range []int{math.MinInt, -1, 0, 1, 16, 17, math.MaxInt} {
		checkBuild(t, impl.Plan{Names: []string{"x", "y"}, Caps: []int{2, room}})
		checkBuild(t, impl.Plan{Names: []string{"x", "x"}, Caps: []int{2, room}})
	}
	checkBuild(t, handPlan())
	checkBuild(t, greatPlan())
	for _, x := range buildFaults() {
		p := clonePlan(greatPlan())
		x.change(&p)
		checkBuild(t, p)
	}
}

// TestBuildOfEachWeave goes through all pairs of merges of up to three topics, right and wrong: the second one finds what the first has made of the topics.
func TestBuildOfEachWeave(t *testing.T) {
	var weaves []impl.Weave
	eachList([]int{-1, 0, 1, 2, 3}, 2, func(from []int) {
		for into := range 4 {
			weaves = append(weaves, impl.Weave{From: slices.Clone(from), Into: into, Filter: subFilters()[len(weaves)%8]})
		}
	})
	for i, w := range weaves {
		for j, v := range weaves {
			if (i+j)%3 == 0 {
				checkBuild(t, impl.Plan{Names: []string{"a", "b", "c"}, Caps: []int{1, 2, 3}, Weaves: []impl.Weave{w, v}, Users: 1})
			}
		}
	}
}

// TestPlansThatShareTheirLists hands in lists that are parts of one another: nothing of the hub shares memory.
func TestPlansThatShareTheirLists(t *testing.T) {
	numbers, terms := []int{-1, 0, 1, 2, 3, 9, 9}, allOf(bare(2), bare(8), fillTerm)
	p := impl.Plan{Tokens: numbers[:5], Notes: 3, Counts: numbers[1:5], Vals: nums(1, 2), Names: []string{"a", "b", "c", "d", "e"}, Caps: []int{1, 2, 3, 4, 5}, Users: 3}
	p.Weaves = []impl.Weave{{From: numbers[1:4], Into: 4, Filter: terms[:2]}, {From: numbers[2:5], Into: 0, Filter: terms[:2]}, {From: numbers[1:3], Into: 4, Filter: terms[:2]}}
	before := clonePlan(wholePlan(p))
	want, _, _ := buildBy(clonePlan(p))
	for i := range 2 {
		h, code, place := impl.Build(p)
		if code != impl.Done || place != -1 || !sameHub(h, want) {
			t.Fatal("built", i, brief(h), code, place)
		}
		if !spoilHub(h) || !samePlan(wholePlan(p), before) {
			t.Fatal("shared", i)
		}
	}
}
