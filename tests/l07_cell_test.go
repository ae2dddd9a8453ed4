package tests

import (
	"fmt"
	"math"
	"slices"
	"strings"
	"testing"

	"loop.example/g00098/impl"
)

func put(m impl.Msg) impl.Change { return impl.Change{Kind: impl.PutIt, Msg: m} }

func add(n int) impl.Change { return impl.Change{Kind: impl.AddIt, Msg: num(n)} }

func joinOn(s string) impl.Change { return impl.Change{Kind: impl.JoinIt, Msg: text(s)} }

func mostOf(m impl.Msg) impl.Change { return impl.Change{Kind: impl.MostIt, Msg: m} }

func openCell(val impl.Msg, version int, line []int, grants []int) impl.Cell {
	return impl.Cell{Val: val, Version: version, Line: line, Grants: grants}
}

func shutCell(val impl.Msg, version int, line []int, grants []int) impl.Cell {
	return impl.Cell{Val: val, Version: version, Closed: true, Line: line, Grants: grants}
}

func cloneCell(c impl.Cell) impl.Cell {
	c.Line, c.Grants = slices.Clone(c.Line), slices.Clone(c.Grants)
	return c
}

func sameCell(a impl.Cell, b impl.Cell) bool {
	return a.Val == b.Val && a.Version == b.Version && a.Closed == b.Closed && slices.Equal(a.Line, b.Line) && slices.Equal(a.Grants, b.Grants)
}

func msgIsRight(m impl.Msg) bool {
	if m.Kind == 1 {
		return m.Text == "" && m.Num >= -999999999 && m.Num <= 999999999
	}
	odd := func(r rune) bool { return r < ' ' || r > '~' || r == '"' }
	return m.Kind == 2 && m.Num == 0 && len(m.Text) <= 40 && !strings.ContainsFunc(m.Text, odd)
}

func cellIsRight(c impl.Cell) bool {
	return msgIsRight(c.Val) && c.Version >= 0 && c.Version <= most && bothAreRight(c.Line, c.Grants) && !(c.Closed && len(c.Line) > 0)
}

// changedBy leaves the zero value, which is no message, where the kinds do not fit.
func changedBy(m impl.Msg, x impl.Change) (impl.Msg, bool) {
	if !msgIsRight(m) || !msgIsRight(x.Msg) {
		return impl.Msg{}, false
	}
	numbers, texts := m.Kind == 1 && x.Msg.Kind == 1, m.Kind == 2 && x.Msg.Kind == 2
	var d impl.Msg
	switch {
	case x.Kind == 1:
		d = x.Msg
	case x.Kind == 2 && numbers:
		d = num(m.Num + x.Msg.Num)
	case x.Kind == 3 && texts:
		d = text(m.Text + x.Msg.Text)
	case x.Kind == 4 && numbers:
		d = num(max(m.Num, x.Msg.Num))
	case x.Kind == 4 && texts:
		d = text(max(m.Text, x.Msg.Text))
	case x.Kind == 4 && m.Kind == 2:
		d = m
	case x.Kind == 4:
		d = x.Msg
	}
	if !msgIsRight(d) {
		return impl.Msg{}, false
	}
	return d, true
}

// cellVals are values of both kinds, at their edges.
func cellVals() []impl.Msg {
	return []impl.Msg{num(0), text("ab"), num(impl.MaxNum), text(""), num(-impl.MaxNum), text(strings.Repeat("m", impl.MaxMsg)), num(7)}
}

// rightCells have Line and Grants with none, one, some and as many as there can be, and Versions at their edges.
func rightCells() []impl.Cell {
	list := []impl.Cell{
		openCell(num(0), 0, nil, nil), openCell(num(0), 0, []int{}, []int{}), openCell(text("a"), 1, []int{63}, []int{0}), openCell(num(3), 4, []int{5, 2}, []int{9, 1, 7, 0}),
		shutCell(num(0), 0, nil, nil), shutCell(text(""), 0, []int{}, []int{}), shutCell(num(3), 4, nil, []int{9, 1, 7, 0}),
	}
	vals := cellVals()
	for _, version := range []int{0, 1, most - 1, most} {
		for _, n := range []int{0, 1, 2, 31, 32} {
			for _, k := range []int{0, 1, 2, 31, 32} {
				line := upTo(32, k)
				slices.Reverse(line)
				list = append(list, openCell(vals[len(list)%len(vals)], version, line, upTo(0, n)))
			}
			list = append(list, shutCell(vals[len(list)%len(vals)], version, nil, upTo(0, n)))
		}
	}
	return list
}

func wrongVersions() []int {
	return []int{-1, -2, -most, most + 1, most + 2, 1 << 32, -1 << 32, math.MaxInt, math.MinInt}
}

// wrongCells are not CellOk, each for a reason of its own, some for several.
func wrongCells() []impl.Cell {
	list := []impl.Cell{{}, {Closed: true}, {Version: 5}}
	for _, p := range wrongPairs() {
		list = append(list, openCell(num(1), 3, p[0], p[1]), shutCell(text("x"), 0, p[0], p[1]), openCell(impl.Msg{}, most+1, p[0], p[1]))
	}
	for _, val := range wrongMsgs() {
		list = append(list, openCell(val, 0, nil, nil), openCell(val, most, []int{4, 5}, []int{6}), shutCell(val, 2, nil, []int{6}), openCell(val, -1, []int{4}, []int{4}))
	}
	for i, c := range rightCells() {
		x := c
		x.Version = wrongVersions()[i%len(wrongVersions())]
		list = append(list, x)
		if len(c.Line) > 0 {
			list = append(list, shutCell(c.Val, c.Version, c.Line, c.Grants))
		}
	}
	return list
}

// changesFor are of each Kind, and of some that are none, with messages at the edges of what they come to.
func changesFor(val impl.Msg) []impl.Change {
	msgs := []impl.Msg{num(0), num(-1), num(impl.MaxNum), text(""), text("b"), text(strings.Repeat("m", impl.MaxMsg)), {}, num(impl.MaxNum + 1), text("\""), {Kind: 1, Text: "1"}, val}
	if val.Kind == impl.MNum && msgIsRight(val) {
		msgs = append(msgs, num(-val.Num), num(impl.MaxNum-val.Num), num(impl.MaxNum-val.Num+1), num(-impl.MaxNum-val.Num), num(-impl.MaxNum-val.Num-1))
	}
	if val.Kind == impl.MText && msgIsRight(val) {
		room := impl.MaxMsg - len(val.Text)
		msgs = append(msgs, text(strings.Repeat("z", room)), text(strings.Repeat("z", room+1)))
	}
	var list []impl.Change
	for _, kind := range []int{0, 1, 2, 3, 4, 5, -1} {
		for _, m := range msgs {
			list = append(list, impl.Change{Kind: kind, Msg: m})
		}
	}
	return list
}

// seensFor are below the Version of a cell, at it and above it, near and far.
func seensFor(c impl.Cell) []int {
	list := []int{math.MinInt, -1, 0, 1, most, most + 1, math.MaxInt, c.Version, -c.Version}
	if cellIsRight(c) {
		list = append(list, c.Version-2, c.Version-1, c.Version+1, c.Version+2)
	}
	slices.Sort(list)
	return slices.Compact(list)
}

func roomyCell(c impl.Cell) impl.Cell {
	c.Line, c.Grants = roomy(c.Line), roomy(c.Grants)
	return c
}

// cellAnswer has what any function of cells answers; what one does not answer is left empty.
type cellAnswer struct {
	c       impl.Cell
	told    []int
	val     impl.Msg
	version int
	code    int
}

// checkCellAnswer holds an answer against the one that is wanted, and looks at the memory; given was made of c. It ends the test, as some of the cells that are wrong would make a very long list of faults.
func checkCellAnswer(t *testing.T, what string, given impl.Cell, c impl.Cell, got cellAnswer, want cellAnswer) {
	t.Helper()
	if !sameCell(got.c, want.c) || !slices.Equal(got.told, want.told) || got.val != want.val || got.version != want.version || got.code != want.code {
		t.Fatalf("%s of %+v = %+v; want %+v", what, c, got, want)
	}
	checkBothApart(t, what, [2][]int{given.Line, given.Grants}, [2][]int{c.Line, c.Grants}, got.c.Line, got.c.Grants, got.told)
	if t.Failed() {
		t.FailNow()
	}
}

func checkCellOk(t *testing.T, c impl.Cell) {
	t.Helper()
	given := roomyCell(c)
	if ok := impl.CellOk(given); ok != cellIsRight(c) {
		t.Fatalf("CellOk(%+v) = %v", c, ok)
	}
	checkBothApart(t, "CellOk", [2][]int{given.Line, given.Grants}, [2][]int{c.Line, c.Grants})
}

func checkChanged(t *testing.T, m impl.Msg, x impl.Change) {
	t.Helper()
	want, ok := changedBy(m, x)
	if d, taken := impl.Changed(m, x); d != want || taken != ok {
		t.Fatalf("Changed(%#v, %#v) = %#v, %v; want %#v, %v", m, x, d, taken, want, ok)
	}
}

// cellFull is said of Update, and of Shut likewise.
func cellFull(c impl.Cell) bool { return c.Version == most || len(c.Line)+len(c.Grants) > 32 }

func checkUpdate(t *testing.T, c impl.Cell, x impl.Change) {
	t.Helper()
	want := cellAnswer{c: cloneCell(c)}
	val, taken := changedBy(c.Val, x)
	switch {
	case !cellIsRight(c):
		want.code = impl.Bad
	case c.Closed:
		want.code = impl.Over
	case !taken:
		want.code = impl.Bad
	case cellFull(c):
		want.code = impl.Full
	default:
		want.told = c.Line
		want.c = openCell(val, c.Version+1, nil, append(want.c.Grants, c.Line...))
	}
	given := roomyCell(c)
	d, told, code := impl.Update(given, x)
	checkCellAnswer(t, fmt.Sprintf("Update by %+v", x), given, c, cellAnswer{c: d, told: told, code: code}, want)
}

func checkShut(t *testing.T, c impl.Cell) {
	t.Helper()
	want := cellAnswer{c: cloneCell(c)}
	switch {
	case !cellIsRight(c):
		want.code = impl.Bad
	case c.Closed:
		want.code = impl.Over
	case cellFull(c):
		want.code = impl.Full
	default:
		want.told = c.Line
		want.c = shutCell(c.Val, c.Version, nil, append(want.c.Grants, c.Line...))
	}
	given := roomyCell(c)
	d, told, code := impl.Shut(given)
	checkCellAnswer(t, "Shut", given, c, cellAnswer{c: d, told: told, code: code}, want)
}

// lookCode is the code with which a right cell tells its value.
func lookCode(c impl.Cell) int {
	if c.Closed {
		return impl.Over
	}
	return impl.Done
}

func checkLook(t *testing.T, c impl.Cell) {
	t.Helper()
	want := cellAnswer{code: impl.Bad}
	if cellIsRight(c) {
		want = cellAnswer{val: c.Val, version: c.Version, code: lookCode(c)}
	}
	given := roomyCell(c)
	val, version, code := impl.Look(given)
	checkCellAnswer(t, "Look", given, c, cellAnswer{val: val, version: version, code: code}, want)
}

func checkWatch(t *testing.T, c impl.Cell, who int, seen int) {
	t.Helper()
	want := cellAnswer{c: cloneCell(c)}
	switch {
	case !cellIsRight(c), who < 0, who > 63:
		want.code = impl.Bad
	case slices.Contains(c.Line, who), slices.Contains(c.Grants, who):
		want.code = impl.There
	case c.Version > seen:
		want.code = impl.Done
	case c.Closed:
		want.code = impl.Over
	case len(c.Line) == 32:
		want.code = impl.Full
	default:
		want.code = impl.Waits
		want.c.Line = append(want.c.Line, who)
	}
	given := roomyCell(c)
	d, code := impl.Watch(given, who, seen)
	checkCellAnswer(t, fmt.Sprint("Watch by ", who, " with ", seen), given, c, cellAnswer{c: d, code: code}, want)
}

func checkSeen(t *testing.T, c impl.Cell, who int) {
	t.Helper()
	want := cellAnswer{c: cloneCell(c)}
	switch {
	case !cellIsRight(c):
		want.code = impl.Bad
	case slices.Contains(c.Line, who):
		want.code = impl.Waits
	case !slices.Contains(c.Grants, who):
		want.code = impl.None
	default:
		want.c.Grants = without(c.Grants, who)
		want.val, want.version, want.code = c.Val, c.Version, lookCode(c)
	}
	given := roomyCell(c)
	d, val, version, code := impl.Seen(given, who)
	checkCellAnswer(t, fmt.Sprint("Seen by ", who), given, c, cellAnswer{c: d, val: val, version: version, code: code}, want)
}

func checkUnwatch(t *testing.T, c impl.Cell, who int) {
	t.Helper()
	want := cellAnswer{c: cloneCell(c)}
	switch {
	case !cellIsRight(c):
		want.code = impl.Bad
	case !slices.Contains(c.Line, who) && !slices.Contains(c.Grants, who):
		want.code = impl.None
	default:
		want.c.Line, want.c.Grants = without(c.Line, who), without(c.Grants, who)
	}
	given := roomyCell(c)
	d, code := impl.Unwatch(given, who)
	checkCellAnswer(t, fmt.Sprint("Unwatch by ", who), given, c, cellAnswer{c: d, code: code}, want)
}

// checkCell asks every function of cells at c.
func checkCell(t *testing.T, c impl.Cell, whos []int, seens []int, changes []impl.Change) {
	t.Helper()
	checkCellOk(t, c)
	checkShut(t, c)
	checkLook(t, c)
	for _, x := range changes {
		checkUpdate(t, c, x)
	}
	for _, who := range whos {
		checkSeen(t, c, who)
		checkUnwatch(t, c, who)
		for _, seen := range seens {
			checkWatch(t, c, who, seen)
		}
	}
}

func TestKindsOfChanges(t *testing.T) {
	if impl.PutIt != 1 || impl.AddIt != 2 || impl.JoinIt != 3 || impl.MostIt != 4 {
		t.Error("constants", impl.PutIt, impl.AddIt, impl.JoinIt, impl.MostIt)
	}
}

// TestChangedByHand has its answers written out, so that it leans on no second way to work them out.
func TestChangedByHand(t *testing.T) {
	full := strings.Repeat("f", 40)
	for i, x := range []struct {
		m    impl.Msg
		x    impl.Change
		want impl.Msg
	}{
		{num(3), put(num(5)), num(5)}, {num(3), put(text("a")), text("a")}, {text("a"), put(num(0)), num(0)}, {text("a"), put(text("")), text("")}, {text(full), put(text(full)), text(full)},
		{num(3), add(5), num(8)}, {num(3), add(-5), num(-2)}, {num(3), add(-3), num(0)}, {num(0), add(0), num(0)},
		{num(999999998), add(1), num(999999999)}, {num(1), add(999999998), num(999999999)}, {num(-999999998), add(-1), num(-999999999)}, {num(999999999), add(-999999999), num(0)}, {num(999999999), add(0), num(999999999)},
		{text("ab"), joinOn("cd"), text("abcd")}, {text("cd"), joinOn("ab"), text("cdab")}, {text(""), joinOn(""), text("")}, {text(""), joinOn("a"), text("a")}, {text("a"), joinOn(""), text("a")}, {text("1"), joinOn("2"), text("12")},
		{text(full[:39]), joinOn("g"), text(full[:39] + "g")}, {text("g"), joinOn(full[:39]), text("g" + full[:39])}, {text(full), joinOn(""), text(full)}, {text(""), joinOn(full), text(full)}, {text(full[:20]), joinOn(full[:20]), text(full)},
		{num(3), mostOf(num(2)), num(3)}, {num(2), mostOf(num(3)), num(3)}, {num(-2), mostOf(num(-3)), num(-2)}, {num(3), mostOf(num(3)), num(3)}, {num(9), mostOf(num(10)), num(10)},
		{text("a"), mostOf(text("b")), text("b")}, {text("b"), mostOf(text("a")), text("b")}, {text("b"), mostOf(text("b")), text("b")}, {text("a"), mostOf(text("ab")), text("ab")}, {text(""), mostOf(text(" ")), text(" ")}, {text("9"), mostOf(text("10")), text("9")}, {text("a"), mostOf(text("B")), text("a")},
		{num(999999999), mostOf(text("")), text("")}, {text(""), mostOf(num(999999999)), text("")}, {num(5), mostOf(text("4")), text("4")}, {text("4"), mostOf(num(5)), text("4")},
	} {
		if d, ok := impl.Changed(x.m, x.x); !ok || d != x.want {
			t.Error("taken", i, d, ok)
		}
	}
}

func TestChangesThatAreRefused(t *testing.T) {
	full := strings.Repeat("f", 40)
	type pair struct {
		m impl.Msg
		x impl.Change
	}
	list := []pair{
		{num(999999999), add(1)}, {num(1), add(999999999)}, {num(-999999999), add(-1)}, {num(-1), add(-999999999)}, {num(999999999), add(999999999)}, {num(-999999999), add(-999999999)},
		{text(full), joinOn("g")}, {text("g"), joinOn(full)}, {text(full[:20]), joinOn(full[:21])}, {text(full), joinOn(full)},
		{num(1), impl.Change{Kind: impl.AddIt, Msg: text("1")}}, {text("1"), add(1)}, {text("1"), impl.Change{Kind: impl.AddIt, Msg: text("1")}}, {text(""), add(0)},
		{text("1"), impl.Change{Kind: impl.JoinIt, Msg: num(1)}}, {num(1), joinOn("1")}, {num(1), impl.Change{Kind: impl.JoinIt, Msg: num(1)}}, {num(0), joinOn("")},
	}
	for _, kind := range []int{0, 5, -1, -4, 6, 256 + 1, 1<<32 + 1, math.MinInt, math.MaxInt} {
		list = append(list, pair{num(1), impl.Change{Kind: kind, Msg: num(1)}}, pair{text("a"), impl.Change{Kind: kind, Msg: text("a")}}, pair{num(1), impl.Change{Kind: kind, Msg: text("a")}})
	}
	for _, wrong := range wrongMsgs() {
		for kind := 1; kind <= 4; kind++ {
			list = append(list, pair{wrong, impl.Change{Kind: kind, Msg: num(0)}}, pair{wrong, impl.Change{Kind: kind, Msg: text("")}}, pair{wrong, impl.Change{Kind: kind, Msg: wrong}})
			list = append(list, pair{num(0), impl.Change{Kind: kind, Msg: wrong}}, pair{text(""), impl.Change{Kind: kind, Msg: wrong}})
		}
	}
	for _, x := range list {
		if d, ok := impl.Changed(x.m, x.x); ok || d != (impl.Msg{}) {
			t.Fatalf("%#v by %#v: %#v, %v", x.m, x.x, d, ok)
		}
		c := openCell(x.m, 4, []int{3, 1}, []int{8})
		if d, told, code := impl.Update(c, x.x); code != impl.Bad || len(told) != 0 || !sameCell(d, c) {
			t.Fatalf("%#v by %#v: %#v, %v, %v", c, x.x, d, told, code)
		}
	}
}

func TestChangedOfAllMessages(t *testing.T) {
	list := append(rightMsgs(), wrongMsgs()...)
	for _, kind := range []int{math.MinInt, -1, 0, 1, 2, 3, 4, 5, math.MaxInt} {
		for _, m := range list {
			for _, with := range list {
				checkChanged(t, m, impl.Change{Kind: kind, Msg: with})
			}
		}
	}
}

// TestMostItIsTheOneThatIsNotAhead asks MsgLess, as the chapter does.
func TestMostItIsTheOneThatIsNotAhead(t *testing.T) {
	for _, a := range rightMsgs() {
		for _, b := range rightMsgs() {
			d, ok := impl.Changed(a, mostOf(b))
			turned, _ := impl.Changed(b, mostOf(a))
			if !ok || d != turned || d != a && d != b || impl.MsgLess(d, a) || impl.MsgLess(d, b) {
				t.Errorf("%#v and %#v: %#v, %#v", a, b, d, turned)
			}
		}
	}
}

func TestCellLimits(t *testing.T) {
	for _, c := range rightCells() {
		if !impl.CellOk(c) {
			t.Fatal("not right", c)
		}
	}
	for _, c := range wrongCells() {
		if impl.CellOk(c) {
			t.Fatal("right", c)
		}
	}
}

func TestCellsAtTheirEdges(t *testing.T) {
	for _, c := range append(rightCells(), wrongCells()...) {
		checkCell(t, c, whosAround(c.Line, c.Grants), seensFor(c), changesFor(c.Val))
	}
}

// TestEveryFewAtACell goes through all of up to two in Line and up to two in Grants, right ones and wrong ones.
func TestEveryFewAtACell(t *testing.T) {
	whos := []int{-1, 0, 1, 63, 64}
	eachList(whos, 2, func(line []int) {
		eachList(whos, 2, func(grants []int) {
			for i, version := range []int{-1, 0, 2, most, most + 1} {
				c := impl.Cell{Val: cellVals()[i], Version: version, Line: line, Grants: grants}
				checkCell(t, c, whos, []int{version - 1, version}, []impl.Change{put(num(5)), add(1)})
				c.Closed = true
				checkCell(t, c, whos, []int{version - 1, version}, []impl.Change{put(num(5)), {}})
			}
		})
	})
}

// TestEveryRightFewAtACell goes through more of them, all right: each order in Line and in Grants.
func TestEveryRightFewAtACell(t *testing.T) {
	eachList(upTo(5, 4), 4, func(line []int) {
		if !lineIsRight(line) {
			return
		}
		eachList(upTo(5, 4), 4-len(line), func(grants []int) {
			for _, closed := range []bool{false, true} {
				if c := (impl.Cell{Val: num(6), Version: 3, Closed: closed, Line: line, Grants: grants}); cellIsRight(c) {
					checkCell(t, c, upTo(4, 6), []int{2, 3, 4}, []impl.Change{put(text("a")), add(-6), joinOn("b")})
				}
			}
		})
	})
}

// TestEveryVersionAtItsEdges has a new cell, and ones with Versions at their edges and beyond, and all that may be asked of them.
func TestEveryVersionAtItsEdges(t *testing.T) {
	for _, version := range append(wrongVersions(), 0, 1, 2, most-2, most-1, most) {
		for _, shape := range []impl.Cell{{}, {Closed: true}, {Line: []int{3}}, {Grants: []int{4}}, {Closed: true, Grants: []int{4}}, {Line: []int{3}, Grants: []int{4}}, {Closed: true, Line: []int{3}}} {
			for _, val := range append(cellVals(), impl.Msg{}) {
				c := shape
				c.Val, c.Version = val, version
				checkCell(t, c, []int{-1, 0, 3, 4, 63, 64}, seensFor(c), changesFor(val))
			}
		}
	}
}

// TestTheFirstReasonToRefuseUpdateAndShut has several reasons to refuse, and the answers written out.
func TestTheFirstReasonToRefuseUpdateAndShut(t *testing.T) {
	one, full, told := num(1), upTo(0, 32), upTo(32, 32)
	right, wrong := add(1), joinOn("a")
	for i, x := range []struct {
		c            impl.Cell
		x            impl.Change
		update, shut int
	}{
		{openCell(one, 0, nil, nil), right, impl.Done, impl.Done}, {openCell(one, 0, nil, nil), wrong, impl.Bad, impl.Done}, {openCell(one, 0, nil, nil), impl.Change{}, impl.Bad, impl.Done},
		{shutCell(one, 0, nil, nil), right, impl.Over, impl.Over}, {shutCell(one, 0, nil, nil), wrong, impl.Over, impl.Over}, {shutCell(one, most, nil, told), impl.Change{}, impl.Over, impl.Over}, {shutCell(one, most, nil, nil), right, impl.Over, impl.Over},
		{shutCell(one, 0, []int{1}, nil), right, impl.Bad, impl.Bad}, {shutCell(impl.Msg{}, 0, nil, nil), right, impl.Bad, impl.Bad}, {shutCell(one, most+1, nil, nil), right, impl.Bad, impl.Bad}, {shutCell(one, -1, nil, nil), right, impl.Bad, impl.Bad},
		{openCell(one, most, nil, nil), right, impl.Full, impl.Full}, {openCell(one, most, nil, nil), wrong, impl.Bad, impl.Full}, {openCell(one, most-1, nil, nil), right, impl.Done, impl.Done}, {openCell(one, most-1, nil, nil), wrong, impl.Bad, impl.Done},
		{openCell(one, 0, full, told), right, impl.Full, impl.Full}, {openCell(one, 0, full, told), wrong, impl.Bad, impl.Full}, {openCell(one, most, full, told), right, impl.Full, impl.Full}, {openCell(one, most+1, full, told), right, impl.Bad, impl.Bad},
		{openCell(one, 0, full, nil), right, impl.Done, impl.Done}, {openCell(one, 0, nil, told), right, impl.Done, impl.Done}, {openCell(one, 0, full[:1], told), right, impl.Full, impl.Full}, {openCell(one, 0, full[:1], told[1:]), right, impl.Done, impl.Done},
		{openCell(one, 0, nil, upTo(0, 33)), right, impl.Bad, impl.Bad}, {openCell(one, 0, upTo(0, 33), nil), right, impl.Bad, impl.Bad}, {openCell(num(impl.MaxNum), most, nil, nil), right, impl.Bad, impl.Full},
	} {
		if d, list, code := impl.Update(x.c, x.x); code != x.update || code != impl.Done && (len(list) != 0 || !sameCell(d, x.c)) {
			t.Error("update", i, d, list, code)
		}
		if d, list, code := impl.Shut(x.c); code != x.shut || code != impl.Done && (len(list) != 0 || !sameCell(d, x.c)) {
			t.Error("shut", i, d, list, code)
		}
	}
}

// TestTheFirstReasonToRefuseWatch has its answers written out too.
func TestTheFirstReasonToRefuseWatch(t *testing.T) {
	one, full, told := num(1), upTo(0, 32), upTo(32, 32)
	for i, x := range []struct {
		c               impl.Cell
		who, seen, code int
	}{
		{openCell(one, 5, nil, nil), 0, 4, impl.Done}, {openCell(one, 5, nil, nil), 0, 5, impl.Waits}, {openCell(one, 5, nil, nil), 0, 6, impl.Waits}, {openCell(one, 5, nil, nil), 63, 5, impl.Waits}, {openCell(one, 5, nil, nil), 63, math.MinInt, impl.Done}, {openCell(one, 5, nil, nil), 63, math.MaxInt, impl.Waits},
		{openCell(one, 5, nil, nil), -1, 4, impl.Bad}, {openCell(one, 5, nil, nil), 64, 4, impl.Bad}, {openCell(one, 5, nil, nil), -1, 5, impl.Bad}, {openCell(one, 5, nil, nil), 64, 5, impl.Bad},
		{openCell(one, 0, nil, nil), 0, -1, impl.Done}, {openCell(one, 0, nil, nil), 0, 0, impl.Waits}, {openCell(one, 0, nil, nil), 0, 1, impl.Waits}, {openCell(one, most, nil, nil), 0, most - 1, impl.Done}, {openCell(one, most, nil, nil), 0, most, impl.Waits}, {openCell(one, most+1, nil, nil), 0, most, impl.Bad},
		{shutCell(one, 5, nil, nil), 0, 4, impl.Done}, {shutCell(one, 5, nil, nil), 0, 5, impl.Over}, {shutCell(one, 5, nil, nil), 0, 6, impl.Over}, {shutCell(one, 5, nil, nil), 64, 4, impl.Bad}, {shutCell(one, 5, nil, nil), 64, 5, impl.Bad}, {shutCell(one, 5, []int{0}, nil), 0, 4, impl.Bad},
		{shutCell(one, 5, nil, told), 40, 4, impl.There}, {shutCell(one, 5, nil, told), 40, 5, impl.There}, {shutCell(one, 5, nil, told), 0, 5, impl.Over}, {shutCell(one, 5, nil, told), 0, 4, impl.Done},
		{openCell(one, 5, full, told), 0, 4, impl.There}, {openCell(one, 5, full, told), 63, 4, impl.There}, {openCell(one, 5, full, told), 0, 5, impl.There}, {openCell(one, 5, full, told), 63, 6, impl.There}, {openCell(one, 5, full, told), 64, 4, impl.Bad}, {openCell(one, 5, full, told), -1, 5, impl.Bad},
		{openCell(one, 5, full, nil), 40, 4, impl.Done}, {openCell(one, 5, full, nil), 40, 5, impl.Full}, {openCell(one, 5, full, nil), 40, 6, impl.Full}, {openCell(one, 5, full[:31], told), 31, 5, impl.Waits}, {openCell(one, 5, nil, told), 0, 5, impl.Waits}, {openCell(impl.Msg{}, 5, nil, nil), 0, 4, impl.Bad},
	} {
		d, code := impl.Watch(x.c, x.who, x.seen)
		want := x.c
		if x.code == impl.Waits {
			want = openCell(one, x.c.Version, append(slices.Clone(x.c.Line), x.who), x.c.Grants)
		}
		if code != x.code || !sameCell(d, want) {
			t.Error("watch", i, d, code)
		}
	}
}

// TestUpdateAndShutWhereItIsFull has a Line and Grants that are MaxLine together, and one more, in each way.
func TestUpdateAndShutWhereItIsFull(t *testing.T) {
	for k := range 33 {
		c := openCell(num(4), 7, upTo(0, k), upTo(32, 32-k))
		both := append(upTo(32, 32-k), upTo(0, k)...)
		if d, list, code := impl.Update(c, add(3)); code != impl.Done || !slices.Equal(list, upTo(0, k)) || !sameCell(d, openCell(num(7), 8, nil, both)) {
			t.Error("update, just as many as there can be", k, d, list, code)
		}
		if d, list, code := impl.Shut(c); code != impl.Done || !slices.Equal(list, upTo(0, k)) || !sameCell(d, shutCell(num(4), 7, nil, both)) {
			t.Error("shut, just as many as there can be", k, d, list, code)
		}
		if k == 0 {
			continue
		}
		c.Grants = upTo(32, 33-k)
		if d, list, code := impl.Update(c, add(3)); code != impl.Full || len(list) != 0 || !sameCell(d, c) {
			t.Error("update, one more", k, d, list, code)
		}
		if d, list, code := impl.Shut(c); code != impl.Full || len(list) != 0 || !sameCell(d, c) {
			t.Error("shut, one more", k, d, list, code)
		}
	}
}

// TestCellByHand has its answers written out, so that it leans on no second way to work them out.
func TestCellByHand(t *testing.T) {
	val := text("v")
	open, shut := openCell(val, 9, []int{8, 2, 6}, []int{5, 1}), shutCell(val, 9, nil, []int{5, 1})
	for _, x := range []struct {
		c, seen, unwatched impl.Cell
		who, see, leave    int
	}{
		{open, open, openCell(val, 9, []int{2, 6}, []int{5, 1}), 8, impl.Waits, impl.Done},
		{open, open, openCell(val, 9, []int{8, 6}, []int{5, 1}), 2, impl.Waits, impl.Done},
		{open, open, openCell(val, 9, []int{8, 2}, []int{5, 1}), 6, impl.Waits, impl.Done},
		{open, openCell(val, 9, []int{8, 2, 6}, []int{1}), openCell(val, 9, []int{8, 2, 6}, []int{1}), 5, impl.Done, impl.Done},
		{open, openCell(val, 9, []int{8, 2, 6}, []int{5}), openCell(val, 9, []int{8, 2, 6}, []int{5}), 1, impl.Done, impl.Done},
		{open, open, open, 0, impl.None, impl.None}, {open, open, open, -1, impl.None, impl.None}, {open, open, open, 63, impl.None, impl.None}, {open, open, open, 64, impl.None, impl.None},
		{shut, shutCell(val, 9, nil, []int{1}), shutCell(val, 9, nil, []int{1}), 5, impl.Over, impl.Done},
		{shut, shutCell(val, 9, nil, []int{5}), shutCell(val, 9, nil, []int{5}), 1, impl.Over, impl.Done},
		{shut, shut, shut, 8, impl.None, impl.None}, {shut, shut, shut, -1, impl.None, impl.None}, {shut, shut, shut, 64, impl.None, impl.None},
	} {
		d, m, version, code := impl.Seen(x.c, x.who)
		told := x.see == impl.Done || x.see == impl.Over
		if code != x.see || !sameCell(d, x.seen) || told && (m != val || version != 9) || !told && (m != impl.Msg{} || version != 0) {
			t.Error("seen", x.c, x.who, d, m, version, code)
		}
		if d, code := impl.Unwatch(x.c, x.who); code != x.leave || !sameCell(d, x.unwatched) {
			t.Error("unwatch", x.c, x.who, d, code)
		}
	}
	if d, list, code := impl.Update(open, joinOn("w")); code != impl.Done || !slices.Equal(list, []int{8, 2, 6}) || !sameCell(d, openCell(text("vw"), 10, nil, []int{5, 1, 8, 2, 6})) {
		t.Error("update", d, list, code)
	}
	if d, list, code := impl.Update(open, put(val)); code != impl.Done || !slices.Equal(list, []int{8, 2, 6}) || !sameCell(d, openCell(val, 10, nil, []int{5, 1, 8, 2, 6})) {
		t.Error("the same value", d, list, code)
	}
	if d, list, code := impl.Shut(open); code != impl.Done || !slices.Equal(list, []int{8, 2, 6}) || !sameCell(d, shutCell(val, 9, nil, []int{5, 1, 8, 2, 6})) {
		t.Error("shut", d, list, code)
	}
}

func TestLookByHand(t *testing.T) {
	for i, x := range []struct {
		c       impl.Cell
		val     impl.Msg
		version int
		code    int
	}{
		{openCell(num(0), 0, nil, nil), num(0), 0, impl.Done}, {openCell(text("v"), 9, []int{1}, []int{2}), text("v"), 9, impl.Done}, {openCell(text(""), most, nil, nil), text(""), most, impl.Done},
		{shutCell(num(-4), 0, nil, nil), num(-4), 0, impl.Over}, {shutCell(text("v"), 9, nil, []int{2}), text("v"), 9, impl.Over},
		{impl.Cell{}, impl.Msg{}, 0, impl.Bad}, {openCell(num(5), most+1, nil, nil), impl.Msg{}, 0, impl.Bad}, {openCell(num(5), -1, nil, nil), impl.Msg{}, 0, impl.Bad}, {shutCell(num(5), 3, []int{1}, nil), impl.Msg{}, 0, impl.Bad}, {openCell(num(5), 3, []int{1}, []int{1}), impl.Msg{}, 0, impl.Bad}, {openCell(num(5), 3, nil, upTo(0, 33)), impl.Msg{}, 0, impl.Bad},
	} {
		if val, version, code := impl.Look(x.c); val != x.val || version != x.version || code != x.code {
			t.Error("look", i, val, version, code)
		}
	}
}

// TestCellListsOfOneArray hands in a Line and Grants that lie side by side, so that to add to the one would spoil the other.
func TestCellListsOfOneArray(t *testing.T) {
	room := []int{8, 2, 5, 1, 7, 9, 9, 9}
	c := openCell(num(4), 6, room[:2], room[2:5])
	watches, _ := impl.Watch(c, 3, 6)
	there, _ := impl.Watch(c, 5, 6)
	sees, _, _, _ := impl.Seen(c, 5)
	leaves, _ := impl.Unwatch(c, 8)
	updated, _, _ := impl.Update(c, add(1))
	shut, _, _ := impl.Shut(c)
	if !slices.Equal(room, []int{8, 2, 5, 1, 7, 9, 9, 9}) {
		t.Error("written into", room)
	}
	if !sameCell(watches, openCell(num(4), 6, []int{8, 2, 3}, []int{5, 1, 7})) || !sameCell(there, c) || !sameCell(sees, openCell(num(4), 6, []int{8, 2}, []int{1, 7})) {
		t.Error("watch, seen", watches, there, sees)
	}
	if !sameCell(leaves, openCell(num(4), 6, []int{2}, []int{5, 1, 7})) || !sameCell(updated, openCell(num(5), 7, nil, []int{5, 1, 7, 8, 2})) || !sameCell(shut, shutCell(num(4), 6, nil, []int{5, 1, 7, 8, 2})) {
		t.Error("unwatch, update, shut", leaves, updated, shut)
	}
}

// TestCellsKeepNothing spoils what is answered and asks once more.
func TestCellsKeepNothing(t *testing.T) {
	for _, c := range append(rightCells(), wrongCells()...) {
		for _, who := range []int{-1, 0, 5, 40} {
			first := cellAnswers(c, who)
			var kept []cellAnswer
			for _, a := range first {
				kept = append(kept, cellAnswer{cloneCell(a.c), slices.Clone(a.told), a.val, a.version, a.code})
				for _, list := range [][]int{a.c.Line, a.c.Grants, a.told} {
					spoilWith(list, func(x int) int { return x + 1 })
				}
			}
			for i, a := range cellAnswers(c, who) {
				if k := kept[i]; !sameCell(a.c, k.c) || !slices.Equal(a.told, k.told) || a.val != k.val || a.version != k.version || a.code != k.code {
					t.Fatal("another one the second time", c, who, i, a)
				}
			}
		}
	}
}

func cellAnswers(c impl.Cell, who int) []cellAnswer {
	var updated, shut, look, watches, sees, leaves cellAnswer
	updated.c, updated.told, updated.code = impl.Update(c, put(num(5)))
	shut.c, shut.told, shut.code = impl.Shut(c)
	look.val, look.version, look.code = impl.Look(c)
	watches.c, watches.code = impl.Watch(c, who, c.Version)
	sees.c, sees.val, sees.version, sees.code = impl.Seen(c, who)
	leaves.c, leaves.code = impl.Unwatch(c, who)
	return []cellAnswer{updated, shut, look, watches, sees, leaves}
}
