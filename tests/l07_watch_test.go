package tests

import (
	"fmt"
	"math/rand/v2"
	"slices"
	"testing"

	"loop.example/g00098/impl"
)

// watchBook has the value of each version from first on, who waits and who was told, each in its order, and the version that each client has seen.
type watchBook struct {
	first   int
	vals    []impl.Msg
	closed  bool
	waiting []int
	told    []int
	seen    []int
}

func (b *watchBook) last() int { return b.first + len(b.vals) - 1 }

func (b *watchBook) full() bool { return b.last() == most || len(b.waiting)+len(b.told) > 32 }

func (b *watchBook) tellAll() []int {
	list := b.waiting
	b.waiting, b.told = nil, append(slices.Clone(b.told), list...)
	return list
}

func (b *watchBook) update(x impl.Change) ([]int, int) {
	if b.closed {
		return nil, impl.Over
	}
	val, ok := changedBy(b.vals[len(b.vals)-1], x)
	switch {
	case !ok:
		return nil, impl.Bad
	case b.full():
		return nil, impl.Full
	}
	b.vals = append(slices.Clone(b.vals), val)
	return b.tellAll(), impl.Done
}

func (b *watchBook) shut() ([]int, int) {
	switch {
	case b.closed:
		return nil, impl.Over
	case b.full():
		return nil, impl.Full
	}
	b.closed = true
	return b.tellAll(), impl.Done
}

func (b *watchBook) watch(who int) int {
	switch {
	case slices.Contains(b.waiting, who), slices.Contains(b.told, who):
		return impl.There
	case b.last() > b.seen[who]:
		return impl.Done
	case b.closed:
		return impl.Over
	case len(b.waiting) == 32:
		return impl.Full
	}
	b.waiting = append(slices.Clone(b.waiting), who)
	return impl.Waits
}

func (b *watchBook) see(who int) int {
	switch {
	case slices.Contains(b.waiting, who):
		return impl.Waits
	case !slices.Contains(b.told, who):
		return impl.None
	}
	b.told = without(b.told, who)
	if b.closed {
		return impl.Over
	}
	return impl.Done
}

func (b *watchBook) unwatch(who int) int {
	if !slices.Contains(b.waiting, who) && !slices.Contains(b.told, who) {
		return impl.None
	}
	b.waiting, b.told = without(b.waiting, who), without(b.told, who)
	return impl.Done
}

// watchCall is one call of a row: its kind, the client that calls, and what an Update changes by.
type watchCall struct {
	kind, who int
	x         impl.Change
}

// watchRow is what a row of calls has come to.
type watchRow struct {
	c impl.Cell
	b watchBook
}

// newWatchRow has clients that have seen nothing (-1) and ones that know the first version, by turns.
func newWatchRow(val impl.Msg, version int, clients int) watchRow {
	s := watchRow{c: impl.Cell{Val: val, Version: version}, b: watchBook{first: version, vals: []impl.Msg{val}}}
	for who := range clients {
		s.b.seen = append(s.b.seen, version-1+who%2)
	}
	return s
}

// do does one call of the program and of the book, and holds their answers against each other.
func (s watchRow) do(t *testing.T, x watchCall) watchRow {
	t.Helper()
	s.b.seen = slices.Clone(s.b.seen)
	var d impl.Cell
	var list, told []int
	var code, want int
	switch x.kind {
	case 0:
		d, list, code = impl.Update(s.c, x.x)
		told, want = s.b.update(x.x)
	case 1:
		d, list, code = impl.Shut(s.c)
		told, want = s.b.shut()
	case 2:
		d, code = impl.Watch(s.c, x.who, s.b.seen[x.who])
		want = s.b.watch(x.who)
		if code == impl.Done || code == impl.Over {
			val, version, looked := impl.Look(d)
			s.hear(t, x.who, val, version, looked)
		}
	case 3:
		var val impl.Msg
		var version int
		d, val, version, code = impl.Seen(s.c, x.who)
		want = s.b.see(x.who)
		if code == impl.Done || code == impl.Over {
			s.hear(t, x.who, val, version, code)
		}
	case 4:
		d, code = impl.Unwatch(s.c, x.who)
		want = s.b.unwatch(x.who)
	}
	if code != want || !slices.Equal(list, told) || !impl.CellOk(d) {
		t.Fatal("cell and book", s.c, x, d, list, code, told, want)
	}
	s.c = d
	s.check(t, x)
	return s
}

// hear is what a client is told: a later version than it has seen, but at the end, at which it may know the last one already; the value as it is now.
func (s *watchRow) hear(t *testing.T, who int, val impl.Msg, version int, code int) {
	t.Helper()
	rises := version > s.b.seen[who] || s.b.closed && version == s.b.seen[who]
	if !rises || version != s.b.last() || val != s.b.vals[version-s.b.first] || (code == impl.Over) != s.b.closed {
		t.Fatal("told", s.c, s.b, who, val, version, code)
	}
	s.b.seen[who] = version
}

// check: the cell is as the book has it, and nobody waits who has seen less.
func (s watchRow) check(t *testing.T, x watchCall) {
	t.Helper()
	want := impl.Cell{Val: s.b.vals[len(s.b.vals)-1], Version: s.b.last(), Closed: s.b.closed, Line: s.b.waiting, Grants: s.b.told}
	if !sameCell(s.c, want) {
		t.Fatal("cell and book", s.c, x, want)
	}
	for _, who := range s.c.Line {
		if s.b.seen[who] < s.c.Version || s.c.Closed {
			t.Fatal("waits and has seen less", s.c, s.b.seen[who], who)
		}
	}
}

// checkLast lets each client go on as far as it can: it has seen the last version then, and of a closed cell it is at its end.
func (s watchRow) checkLast(t *testing.T) {
	t.Helper()
	for who := range s.b.seen {
		d := s.do(t, watchCall{kind: 3, who: who})
		d = d.do(t, watchCall{kind: 2, who: who})
		d = d.do(t, watchCall{kind: 2, who: who})
		if d.b.seen[who] != d.c.Version || slices.Contains(d.c.Grants, who) {
			t.Fatal("has not seen the last one", s.c, who, d.b.seen[who])
		}
		if _, code := impl.Watch(d.c, who, d.b.seen[who]); d.c.Closed && code != impl.Over || !d.c.Closed && code != impl.There && code != impl.Full {
			t.Fatal("at rest", s.c, who, code)
		}
	}
}

// waysToStand is in how many ways the clients from who on can stand at a Version, when n others wait or were told already. Who stands in neither has seen any version from its first one on; all others are in one of as many groups as there were versions (by the one they waited with; the last group still waits, or was told by Shut), each behind another one of its group or at its beginning.
func waysToStand(version int, clients int, who int, n int) int {
	if who == clients {
		return 1
	}
	out := (version + 2 - who%2) * waysToStand(version, clients, who+1, n)
	return out + (version+1+n)*waysToStand(version, clients, who+1, n+1)
}

// statesUpTo counts the cells, open and closed, with each value that each Version may have here, and what the clients have seen.
func statesUpTo(versions int, clients int) int {
	sum := 0
	for v := range versions + 1 {
		sum += 2 * (v + 1) * waysToStand(v, clients, 0, 0)
	}
	return sum
}

// TestEveryRowOfACell does all rows of calls by a few clients up to a few versions, going on from each state just once until there is no other one.
func TestEveryRowOfACell(t *testing.T) {
	for _, x := range []struct{ clients, versions int }{{1, 6}, {2, 4}, {3, 3}, {4, 1}} {
		calls := []watchCall{{kind: 0, x: add(1)}, {kind: 0, x: mostOf(num(0))}, {kind: 0, x: joinOn("a")}, {kind: 1}}
		for kind := 2; kind <= 4; kind++ {
			for who := range x.clients {
				calls = append(calls, watchCall{kind: kind, who: who})
			}
		}
		seen := map[string]bool{}
		states := []watchRow{newWatchRow(num(0), 0, x.clients)}
		for len(states) > 0 {
			s := states[0]
			states = states[1:]
			s.checkLast(t)
			for _, call := range calls {
				d := s.do(t, call)
				if key := fmt.Sprint(d.c, d.b.seen); d.c.Version <= x.versions && !seen[key] {
					seen[key] = true
					states = append(states, d)
				}
			}
		}
		if want := statesUpTo(x.versions, x.clients); len(seen) != want {
			t.Error("states come to", x, len(seen), want)
		}
	}
}

// someChange is mostly one that is taken.
func someChange(r *rand.Rand) impl.Change {
	letter := string(rune('a' + r.IntN(26)))
	list := []impl.Change{put(num(r.IntN(9))), put(text(letter)), add(r.IntN(9) - 4), joinOn(letter), mostOf(num(r.IntN(20))), mostOf(text(letter)), {Kind: r.IntN(7) - 1, Msg: num(r.IntN(9))}, put(impl.Msg{})}
	return list[r.IntN(len(list))]
}

// TestLongRowsOfACell goes on with many clients, by chance, with more of one kind of call or of another, so that Line and Grants come to be full; some end closed, some at the last version that there can be.
func TestLongRowsOfACell(t *testing.T) {
	weights := [][5]int{{10, 0, 10, 10, 3}, {1, 0, 90, 6, 1}, {10, 0, 30, 2, 1}, {6, 1, 40, 20, 5}, {1, 0, 8, 4, 4}, {200, 1, 300, 20, 5}}
	fullLine, fullBoth, closed, atMost, late := 0, 0, 0, 0, 0
	for seed := range uint64(144) {
		r := rand.New(rand.NewPCG(seed, 17))
		w, clients := weights[seed%6], []int{2, 5, 40, 64}[seed/6%4]
		s := newWatchRow(num(0), []int{0, 0, most - 20}[seed/24%3], clients)
		granted := make([]int, clients)
		for range 300 {
			x := watchCall{kind: weighed(r, w), who: r.IntN(clients), x: someChange(r)}
			d := s.do(t, x)
			if x.kind == 3 && slices.Contains(s.c.Grants, x.who) && s.c.Version > granted[x.who] {
				late++
			}
			if x.kind < 2 && len(s.c.Line) > 0 && len(d.c.Line) == 0 {
				for _, who := range s.c.Line {
					granted[who] = d.c.Version
				}
			}
			s = d
			if len(s.c.Line) == 32 {
				fullLine++
			}
			if len(s.c.Line)+len(s.c.Grants) > 32 && len(s.c.Line) > 0 {
				fullBoth++
			}
		}
		s.checkLast(t)
		if s.c.Closed {
			closed++
		}
		if s.c.Version == most {
			atMost++
		}
	}
	if fullLine < 500 || fullBoth < 500 || closed < 20 || atMost < 10 || late < 300 {
		t.Error("these rows come to too little", fullLine, fullBoth, closed, atMost, late)
	}
}

// TestWhoWasToldSeesTheLatest has a client that is told, and up to five updates more, and perhaps a Shut, ahead of its going on; to watch once more is to be There, whatever it says to have seen.
func TestWhoWasToldSeesTheLatest(t *testing.T) {
	for more := range 6 {
		for _, closes := range []bool{false, true} {
			c, _ := impl.Watch(impl.Cell{Val: num(10)}, 4, 0)
			for i := range more + 1 {
				d, list, code := impl.Update(c, add(1))
				if code != impl.Done || d.Version != i+1 || (len(list) == 1) != (i == 0) || !slices.Equal(d.Grants, []int{4}) {
					t.Fatal("update", i, d, list, code)
				}
				c = d
			}
			end := impl.Done
			if closes {
				c, _, _ = impl.Shut(c)
				end = impl.Over
			}
			for _, seen := range []int{-1, 0, more, more + 1, more + 2, most} {
				if d, code := impl.Watch(c, 4, seen); code != impl.There || !sameCell(d, c) {
					t.Fatal("told, and has not gone on", seen, d, code)
				}
			}
			d, val, version, code := impl.Seen(c, 4)
			if code != end || val != num(11+more) || version != more+1 || !sameCell(d, impl.Cell{Val: val, Version: version, Closed: closes}) {
				t.Fatal("the latest", more, d, val, version, code)
			}
			if _, val, version, code := impl.Seen(d, 4); code != impl.None || val != (impl.Msg{}) || version != 0 {
				t.Fatal("just once", val, version, code)
			}
		}
	}
}

// TestVersionsRiseByOne with each update, also with those that leave the value as it is, and with none that is refused.
func TestVersionsRiseByOne(t *testing.T) {
	c := impl.Cell{Val: num(5)}
	for i, x := range []struct {
		x       impl.Change
		val     impl.Msg
		version int
		code    int
	}{
		{put(num(5)), num(5), 1, impl.Done}, {add(0), num(5), 2, impl.Done}, {mostOf(num(5)), num(5), 3, impl.Done}, {mostOf(num(-5)), num(5), 4, impl.Done}, {joinOn("a"), num(5), 4, impl.Bad}, {add(impl.MaxNum), num(5), 4, impl.Bad}, {impl.Change{}, num(5), 4, impl.Bad},
		{put(text("a")), text("a"), 5, impl.Done}, {joinOn(""), text("a"), 6, impl.Done}, {joinOn("b"), text("ab"), 7, impl.Done}, {add(1), text("ab"), 7, impl.Bad}, {mostOf(num(9)), text("ab"), 8, impl.Done}, {put(num(0)), num(0), 9, impl.Done},
	} {
		d, _, code := impl.Update(c, x.x)
		if code != x.code || !sameCell(d, impl.Cell{Val: x.val, Version: x.version}) {
			t.Fatal("update", i, d, code)
		}
		c = d
	}
}

// TestTheLastVersions: the last update that there can be is taken and told, and none behind it.
func TestTheLastVersions(t *testing.T) {
	c, _ := impl.Watch(impl.Cell{Val: num(1), Version: most - 2}, 3, most-2)
	c, _, _ = impl.Update(c, add(1))
	c, list, code := impl.Update(c, add(1))
	if code != impl.Done || len(list) != 0 || !sameCell(c, impl.Cell{Val: num(3), Version: most, Grants: []int{3}}) {
		t.Fatal("the last one", c, list, code)
	}
	if d, list, code := impl.Update(c, add(1)); code != impl.Full || len(list) != 0 || !sameCell(d, c) {
		t.Fatal("one more", d, list, code)
	}
	if _, val, version, code := impl.Seen(c, 3); code != impl.Done || val != num(3) || version != most {
		t.Fatal("seen", val, version, code)
	}
}

// TestShutTellsAllWhoWatch has n that wait and k that were told already; behind it there is no update, and the value stays.
func TestShutTellsAllWhoWatch(t *testing.T) {
	for n := range 33 {
		for k := range 33 - n {
			c := impl.Cell{Val: text("end"), Version: 6, Line: upTo(0, n), Grants: upTo(32, k)}
			c, list, code := impl.Shut(c)
			if code != impl.Done || !slices.Equal(list, upTo(0, n)) || !sameCell(c, impl.Cell{Val: text("end"), Version: 6, Closed: true, Grants: append(upTo(32, k), upTo(0, n)...)}) {
				t.Fatal("shut", n, k, c, list, code)
			}
			for _, x := range []impl.Change{put(num(1)), joinOn("x"), {}} {
				if d, list, code := impl.Update(c, x); code != impl.Over || len(list) != 0 || !sameCell(d, c) {
					t.Fatal("update", n, k, d, list, code)
				}
			}
			if d, list, code := impl.Shut(c); code != impl.Over || len(list) != 0 || !sameCell(d, c) {
				t.Fatal("shut once more", n, k, d, list, code)
			}
			for _, who := range c.Grants {
				d, val, version, code := impl.Seen(c, who)
				if code != impl.Over || val != text("end") || version != 6 {
					t.Fatal("seen", n, k, who, val, version, code)
				}
				c = d
			}
			if !sameCell(c, impl.Cell{Val: text("end"), Version: 6, Closed: true}) {
				t.Fatal("all have gone on", n, k, c)
			}
		}
	}
}

// TestNobodyWaitsWhoHasSeenLess has each client, with each few versions seen, at open and closed cells: just who has seen all waits, and only as long as there may be more.
func TestNobodyWaitsWhoHasSeenLess(t *testing.T) {
	for who := range 64 {
		for version := range 8 {
			for seen := -2; seen < 10; seen++ {
				for _, closed := range []bool{false, true} {
					c := impl.Cell{Val: num(1), Version: version, Closed: closed}
					want := impl.Waits
					if closed {
						want = impl.Over
					}
					if seen < version {
						want = impl.Done
					}
					d, code := impl.Watch(c, who, seen)
					if code != want || (len(d.Line) > 0) != (code == impl.Waits) || code == impl.Waits && d.Line[0] != who {
						t.Fatal("watch", c, who, seen, d, code)
					}
				}
			}
		}
	}
}

// TestOneWatchesWhileAnotherUpdates lets a watcher go on behind each of every few numbers of updates: it is told versions that rise, each with its value, and the last one at the end.
func TestOneWatchesWhileAnotherUpdates(t *testing.T) {
	eachList([]int{0, 1, 2, 3}, 5, func(bursts []int) {
		c := impl.Cell{Val: num(0)}
		seen, updates := 0, 0
		var heard []int
		hear := func(val impl.Msg, version int) {
			if val != num(100*version) {
				t.Fatal("value", bursts, val, version)
			}
			heard, seen = append(heard, version), version
		}
		var want []int
		for _, n := range bursts {
			c, _ = impl.Watch(c, 9, seen)
			for range n {
				c, _, _ = impl.Update(c, add(100))
				updates++
			}
			if d, val, version, code := impl.Seen(c, 9); code == impl.Done {
				c = d
				hear(val, version)
			}
			if n > 0 {
				want = append(want, updates)
			}
		}
		if !slices.Equal(heard, want) || seen != updates {
			t.Fatal("heard", bursts, heard, want)
		}
		c, _ = impl.Watch(c, 9, seen)
		c, list, _ := impl.Shut(c)
		if _, val, version, code := impl.Seen(c, 9); code != impl.Over || val != num(100*updates) || version != updates || !slices.Equal(list, []int{9}) {
			t.Fatal("at its end", bursts, val, version, code, list)
		}
	})
}
