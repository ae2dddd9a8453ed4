package tests

import (
	"math"
	"slices"
	"strings"
	"testing"

	"loop.example/g00098/impl"
)

// The tests of this file have their answers written out, so that they lean on no second way to work them out.

func called(who int, n int) impl.Mark { return mark(stepCall(who), code(n)) }

func ended(who int, n int) impl.Mark { return mark(stepEnd(who), code(n)) }

func aborted(who int, n int) impl.Mark { return mark(stepAbort(who), code(n)) }

func marksOf(list ...impl.Mark) []impl.Mark { return list }

func sameRec(a impl.Rec, b impl.Rec) bool {
	return a.Who == b.Who && a.Number == b.Number && a.First == b.First && a.Last == b.Last && a.Code == b.Code && sameCall(a.Call, b.Call)
}

// histProgs has a client without calls, one with one, and Filters.
func histProgs(t *testing.T) [][]impl.Call {
	t.Helper()
	return progsOf(t, "await 0\ntell 0\nrecv 0 by 0\n", "tell 0\nsub 0 if num !\nawait 1 by 1\n", "", "sub 1 back if all num |\n", "watch 0\nlatch 0\nstand 1\n")
}

// told is a record, told by numbers alone: its call is the one that the client has at that number.
type told struct {
	who, number, first, last, code int
}

// checkRecords wants just these, and that they are in order.
func checkRecords(t *testing.T, what any, progs [][]impl.Call, list []impl.Mark, want ...told) {
	t.Helper()
	var recs []impl.Rec
	for _, x := range want {
		recs = append(recs, impl.Rec{Who: x.who, Number: x.number, Call: progs[x.who][x.number], First: x.first, Last: x.last, Code: x.code})
	}
	got, ok := impl.Records(progs, list)
	if !ok || !slices.EqualFunc(got, recs, sameRec) {
		t.Errorf("%v: %s, %v; want %s", what, brief(got), ok, brief(recs))
	}
	if !impl.Orders(progs, list) {
		t.Error("not in order", what)
	}
}

// checkCannotBe asks all functions.
func checkCannotBe(t *testing.T, what any, progs [][]impl.Call, list []impl.Mark) {
	t.Helper()
	if got, ok := impl.Records(progs, list); ok || len(got) != 0 {
		t.Error("records", what, brief(got), ok)
	}
	for n := range max(1, len(progs)) {
		if numbers, lost, ok := impl.Heard(progs, list, n, 0); ok || len(numbers) != 0 || lost != 0 {
			t.Error("heard", what, numbers, lost, ok)
		}
		if a, b, c, ok := impl.Tally(progs, list, n); ok || a != 0 || b != 0 || c != 0 {
			t.Error("tally", what, a, b, c, ok)
		}
	}
	if impl.Orders(progs, list) {
		t.Error("in order", what)
	}
}

// codesBut are codes, and numbers that are none, without one of them.
func codesBut(n int) []int {
	all := []int{math.MinInt, -1, 0, 1, 2, 3, 4, 5, 6, 7, 8, 260, 1<<32 + 4, math.MaxInt}
	return slices.DeleteFunc(all, func(x int) bool { return x == n })
}

func TestHistoryConstants(t *testing.T) {
	if impl.MaxMarks != 400 {
		t.Error("limit", impl.MaxMarks)
	}
}

func TestRecordsOfNothingByHand(t *testing.T) {
	for _, progs := range [][][]impl.Call{nil, {}, {nil}, {nil, nil}, histProgs(t)} {
		for _, list := range [][]impl.Mark{nil, {}, {mark(stepTick(), impl.Reply{})}, {mark(stepLeg(0, 1), code(impl.Waits)), mark(stepTick(), impl.Reply{N: 4, M: 1})}} {
			checkRecords(t, "nothing", progs, list)
		}
	}
}

func TestRecordsByHand(t *testing.T) {
	waits, done, off := impl.Waits, impl.Done, impl.Off
	for _, x := range []struct {
		what string
		list []impl.Mark
		want []told
	}{
		{"does not wait", marksOf(called(0, done)), []told{{0, 0, 0, 0, done}}},
		{"waits still", marksOf(called(0, waits)), []told{{0, 0, 0, -1, waits}}},
		{"waits, and is over", marksOf(called(0, waits), ended(0, done)), []told{{0, 0, 0, 1, done}}},
		{"waits, and is called off", marksOf(called(0, waits), aborted(0, off)), []told{{0, 0, 0, 1, off}}},
		{"over behind one that tells Waits", marksOf(called(0, waits), ended(0, waits), ended(0, done)), []told{{0, 0, 0, 2, done}}},
		{"over behind several", marksOf(called(0, waits), ended(0, waits), ended(0, waits), ended(0, waits), ended(0, impl.Over)), []told{{0, 0, 0, 4, impl.Over}}},
		{"called off behind several", marksOf(called(0, waits), ended(0, waits), ended(0, waits), aborted(0, off)), []told{{0, 0, 0, 3, off}}},
		{"waits still behind several", marksOf(called(0, waits), ended(0, waits), ended(0, waits)), []told{{0, 0, 0, -1, waits}}},
		{"refused, and the next one", marksOf(called(0, impl.Bad), called(0, impl.None), called(0, impl.Full)), []told{{0, 0, 0, 0, impl.Bad}, {0, 1, 1, 1, impl.None}, {0, 2, 2, 2, impl.Full}}},
		{"all calls are done", marksOf(called(0, waits), ended(0, done), called(0, done), called(0, waits), aborted(0, off)), []told{{0, 0, 0, 1, done}, {0, 1, 2, 2, done}, {0, 2, 3, 4, off}}},
		{"all calls but that the last one waits", marksOf(called(0, done), called(0, done), called(0, waits)), []told{{0, 0, 0, 0, done}, {0, 1, 1, 1, done}, {0, 2, 2, -1, waits}}},
		{"the only call waits", marksOf(called(3, waits)), []told{{3, 0, 0, -1, waits}}},
		{"the next one waits as well", marksOf(called(4, waits), ended(4, done), called(4, waits), ended(4, waits)), []told{{4, 0, 0, 1, done}, {4, 1, 2, -1, waits}}},
		{"one behind the other", marksOf(called(3, done), called(1, done), called(0, done), called(1, done)), []told{{3, 0, 0, 0, done}, {1, 0, 1, 1, done}, {0, 0, 2, 2, done}, {1, 1, 3, 3, done}}},
		{"two wait, the first is over first", marksOf(called(0, waits), called(1, waits), ended(0, done), ended(1, done)), []told{{0, 0, 0, 2, done}, {1, 0, 1, 3, done}}},
		{"two wait, the second is over first", marksOf(called(1, waits), called(0, waits), ended(0, done), aborted(1, off)), []told{{1, 0, 0, 3, off}, {0, 0, 1, 2, done}}},
		{"two wait, the second alone is over", marksOf(called(0, waits), called(1, waits), ended(1, done)), []told{{0, 0, 0, -1, waits}, {1, 0, 1, 2, done}}},
		{"two wait, the first alone is over", marksOf(called(0, waits), called(1, waits), ended(0, done)), []told{{0, 0, 0, 2, done}, {1, 0, 1, -1, waits}}},
		{"four wait still", marksOf(called(4, waits), called(0, waits), called(3, waits), called(1, waits)), []told{{4, 0, 0, -1, waits}, {0, 0, 1, -1, waits}, {3, 0, 2, -1, waits}, {1, 0, 3, -1, waits}}},
		{"four wait, and are over by turns", marksOf(called(4, waits), called(0, waits), called(3, waits), called(1, waits), ended(3, done), ended(1, waits), aborted(4, off), ended(1, done), ended(0, impl.Over)), []told{{4, 0, 0, 6, off}, {0, 0, 1, 8, impl.Over}, {3, 0, 2, 4, done}, {1, 0, 3, 7, done}}},
		{"one waits while another does all its calls", marksOf(called(4, waits), called(0, done), called(0, waits), ended(0, done), called(0, done), called(1, done)), []told{{4, 0, 0, -1, waits}, {0, 0, 1, 1, done}, {0, 1, 2, 3, done}, {0, 2, 4, 4, done}, {1, 0, 5, 5, done}}},
		{"one waits from the first mark to the last", marksOf(called(4, waits), called(0, done), called(3, done), called(1, done), ended(4, waits), ended(4, done)), []told{{4, 0, 0, 5, done}, {0, 0, 1, 1, done}, {3, 0, 2, 2, done}, {1, 0, 3, 3, done}}},
	} {
		checkRecords(t, x.what, histProgs(t), x.list, x.want...)
	}
}

// TestRecordsOfEachCodeByHand: a StepCall or a StepEnd with just the one code waits, a StepAbort with none.
func TestRecordsOfEachCodeByHand(t *testing.T) {
	progs := histProgs(t)
	waits := impl.Waits
	for _, n := range codesBut(waits) {
		checkRecords(t, n, progs, marksOf(called(0, n), called(0, n)), told{0, 0, 0, 0, n}, told{0, 1, 1, 1, n})
		checkRecords(t, n, progs, marksOf(called(0, waits), ended(0, n), called(0, n)), told{0, 0, 0, 1, n}, told{0, 1, 2, 2, n})
		checkRecords(t, n, progs, marksOf(called(0, waits), ended(0, waits), ended(0, n)), told{0, 0, 0, 2, n})
		checkCannotBe(t, n, progs, marksOf(called(0, n), ended(0, n)))
		checkCannotBe(t, n, progs, marksOf(called(0, n), aborted(0, n)))
		checkCannotBe(t, n, progs, marksOf(called(0, waits), ended(0, n), ended(0, n)))
	}
	for _, n := range codesBut(-99) {
		checkRecords(t, n, progs, marksOf(called(0, waits), aborted(0, n), called(0, waits)), told{0, 0, 0, 1, n}, told{0, 1, 2, -1, waits})
		checkCannotBe(t, n, progs, marksOf(called(0, waits), aborted(0, n), ended(0, n)))
		checkCannotBe(t, n, progs, marksOf(called(0, waits), aborted(0, n), aborted(0, n)))
	}
	// Only the Code tells whether it waits, and whatever the call is.
	rest := impl.Reply{Code: waits, N: 4, M: 4, Msg: num(4)}
	for who, numbers := range map[int]int{0: 3, 1: 3, 3: 1, 4: 3} {
		var list []impl.Mark
		var want []told
		for n := range numbers {
			list = append(list, mark(impl.Step{Kind: 1, Who: who, Leg: 9}, rest), mark(impl.Step{Kind: 2, Who: who, Leg: -9}, impl.Reply{N: 4, M: 4, Msg: num(4)}))
			want = append(want, told{who, n, 2 * n, 2*n + 1, 0})
		}
		checkRecords(t, who, progs, list, want...)
	}
}

// othersMarks are of no client's steps: legs, ticks, and kinds that there are not; whose they are does not matter.
func othersMarks() []impl.Mark {
	var list []impl.Mark
	for _, kind := range []int{4, 5, 0, 6, -1, -2, -3, 257, 1 << 32, 1<<32 + 1, math.MinInt, math.MaxInt} {
		for _, who := range []int{0, 1, 2, 9, 64, -1, math.MinInt, math.MaxInt} {
			list = append(list, impl.Mark{Step: impl.Step{Kind: kind, Who: who, Leg: who % 3}, Reply: impl.Reply{Code: who % 8, N: 3, M: kind % 2}})
		}
	}
	return list
}

func TestRecordsPassOthersByByHand(t *testing.T) {
	waits, done, off := impl.Waits, impl.Done, impl.Off
	for i, x := range othersMarks() {
		for _, progs := range [][][]impl.Call{nil, {nil}, histProgs(t)} {
			checkRecords(t, x, progs, marksOf(x, x))
		}
		progs := histProgs(t)
		checkRecords(t, x, progs, marksOf(x, called(0, done), x, x, called(1, done), x), told{0, 0, 1, 1, done}, told{1, 0, 4, 4, done})
		checkRecords(t, x, progs, marksOf(called(0, waits), x, ended(0, waits), x, ended(0, done), x, called(0, waits), x, aborted(0, off)), told{0, 0, 0, 4, done}, told{0, 1, 6, 8, off})
		checkRecords(t, x, progs, marksOf(x, x, called(0, waits), x), told{0, 0, 2, -1, waits})
		checkCannotBe(t, x, progs, marksOf(called(0, done), x, ended(0, done)))
		checkCannotBe(t, x, progs, marksOf(called(0, waits), x, called(0, done)))
		checkCannotBe(t, x, progs, marksOf(x, aborted(i%5, off)))
	}
}

func TestMarksThatCannotBeByHand(t *testing.T) {
	waits, done, off := impl.Waits, impl.Done, impl.Off
	progs := histProgs(t)
	nobody := []int{-1, -2, 5, 6, 64, 255, 1 << 32, math.MinInt, math.MaxInt}
	for _, who := range nobody {
		for _, x := range []impl.Mark{called(who, done), called(who, waits), ended(who, done), ended(who, waits), aborted(who, off), aborted(who, waits)} {
			checkCannotBe(t, "nobody", progs, marksOf(x))
			checkCannotBe(t, "nobody behind others", progs, marksOf(called(0, done), called(1, waits), x))
			checkCannotBe(t, "nobody ahead of others", progs, marksOf(x, called(0, done)))
			checkCannotBe(t, "nobody at all", nil, marksOf(x))
		}
	}
	for i, list := range [][]impl.Mark{
		{called(2, done)}, {called(2, waits)}, {ended(2, done)}, {aborted(2, off)}, {called(3, done), called(3, done)}, {called(3, done), called(3, waits)}, {called(3, waits), called(3, done)}, {called(3, waits), called(3, waits)}, {called(3, waits), ended(3, done), called(3, done)}, {called(3, waits), aborted(3, off), called(3, done)},
		{called(0, done), called(0, done), called(0, done), called(0, done)}, {called(0, done), called(0, done), called(0, waits), called(0, done)}, {called(0, done), called(0, done), called(0, waits), ended(0, done), called(0, done)}, {called(1, impl.Bad), called(1, impl.Bad), called(1, impl.Bad), called(1, impl.Bad)},
		{called(0, waits), called(0, done)}, {called(0, waits), called(0, waits)}, {called(0, waits), ended(0, waits), called(0, done)}, {called(0, waits), called(1, done), called(0, done)}, {called(0, done), called(0, waits), called(0, done)},
		{ended(0, done)}, {ended(0, waits)}, {aborted(0, off)}, {aborted(0, waits)}, {called(0, done), ended(0, done)}, {called(0, done), ended(0, waits)}, {called(0, done), aborted(0, off)}, {called(3, done), ended(3, done)}, {called(3, done), aborted(3, off)},
		{called(0, waits), ended(0, done), ended(0, done)}, {called(0, waits), ended(0, done), aborted(0, off)}, {called(0, waits), aborted(0, off), aborted(0, off)}, {called(0, waits), aborted(0, off), ended(0, done)}, {called(0, waits), aborted(0, waits), ended(0, done)}, {called(0, waits), aborted(0, waits), aborted(0, off)},
		{called(0, waits), ended(1, done)}, {called(0, waits), aborted(1, off)}, {called(0, waits), called(1, done), ended(1, done)}, {called(0, waits), called(1, done), aborted(1, off)}, {called(0, waits), called(1, waits), ended(0, done), ended(0, done)},
	} {
		checkCannotBe(t, i, progs, list)
		checkCannotBe(t, i, progs, slices.Concat(marksOf(called(4, waits), mark(stepTick(), impl.Reply{N: 3})), list))
		checkCannotBe(t, i, progs, slices.Concat(list, marksOf(called(4, waits), ended(4, done))))
		right := list[:len(list)-1]
		if _, ok := impl.Records(progs, right); !ok || !impl.Orders(progs, right) {
			t.Error("without the last one it is right", i)
		}
	}
}

func TestManyMarksByHand(t *testing.T) {
	progs := histProgs(t)
	waits, done := impl.Waits, impl.Done
	tick := mark(stepTick(), impl.Reply{N: 1})
	for _, n := range []int{398, 399, 400} {
		checkRecords(t, "ticks", progs, slices.Repeat(marksOf(tick), n))
		checkRecords(t, "a call behind ticks", progs, slices.Concat(slices.Repeat(marksOf(tick), n-1), marksOf(called(1, done))), told{1, 0, n - 1, n - 1, done})
		ends := slices.Concat(marksOf(called(0, waits)), slices.Repeat(marksOf(ended(0, waits)), n-1))
		checkRecords(t, "waits still", progs, ends, told{0, 0, 0, -1, waits})
		ends[n-1] = ended(0, done)
		checkRecords(t, "over with the last one", progs, ends, told{0, 0, 0, n - 1, done})
		checkCannotBe(t, "the last one is wrong", progs, slices.Concat(slices.Repeat(marksOf(tick), n-1), marksOf(ended(1, done))))
	}
	for _, n := range []int{401, 402, 1000, 100000} {
		checkCannotBe(t, "too many ticks", progs, slices.Repeat(marksOf(tick), n))
		checkCannotBe(t, "too many ends", progs, slices.Concat(marksOf(called(0, waits)), slices.Repeat(marksOf(ended(0, waits)), n-1)))
		checkCannotBe(t, "too many, and wrong ones", progs, slices.Repeat(marksOf(called(-1, done)), n))
	}
	// As many calls as marks, of more clients and longer programs than runs have.
	many := slices.Repeat([][]impl.Call{slices.Repeat(progs[1], 14)}, 10)
	var list []impl.Mark
	var want []told
	for i := range 400 {
		list = append(list, called(i%10, done))
		want = append(want, told{i % 10, i / 10, i, i, done})
	}
	checkRecords(t, "calls", many, list, want...)
	checkCannotBe(t, "one call too many", many, append(list, called(0, done)))
	crowd := slices.Repeat(progs[:2], 100)
	list, want = nil, nil
	for i := range 200 {
		list, want = append(list, called(199-i, waits)), append(want, told{199 - i, 0, i, -1, waits})
	}
	checkRecords(t, "a crowd that waits", crowd, list, want...)
	for i := range 200 {
		list = append(list, ended(i*7%200, done))
		want[199-i*7%200].last, want[199-i*7%200].code = 200+i, done
	}
	checkRecords(t, "a crowd that is over", crowd, list, want...)
}

// oddPrograms are such as Start refuses.
func oddPrograms() [][]impl.Call {
	return [][]impl.Call{{{}, {Op: 20, Tok: 7}, asks(impl.OpTell, math.MinInt)}, {{Op: impl.OpRecv, A: 3, B: -1, Name: "Z", Filter: nots(13)}, byToken(takes(impl.OpRecv, math.MaxInt), -2)}, {{Op: impl.OpAwait, A: -1, B: 5}, asks(impl.OpTell, -1)}}
}

func TestRecordsOfOddCallsByHand(t *testing.T) {
	waits, done := impl.Waits, impl.Done
	progs := oddPrograms()
	for i, c := range slices.Concat(progs...) {
		if impl.CallOk(c) != (c.Op == impl.OpTell) {
			t.Fatal("the test's own call", i, c)
		}
	}
	list := marksOf(called(0, waits), called(1, done), called(1, waits), ended(0, done), called(0, done), called(2, impl.Off), called(2, done), ended(1, waits), called(0, waits))
	checkRecords(t, "odd calls", progs, list, told{0, 0, 0, 3, done}, told{1, 0, 1, 1, done}, told{1, 1, 2, -1, waits}, told{0, 1, 4, 4, done}, told{2, 0, 5, 5, impl.Off}, told{2, 1, 6, 6, done}, told{0, 2, 8, -1, waits})
	if numbers, lost, ok := impl.Heard(progs, list, 1, -1); !ok || !slices.Equal(numbers, []int{0}) || lost != 0 {
		t.Error("heard", numbers, lost, ok)
	}
	if a, b, c, ok := impl.Tally(progs, list, -1); !ok || a != 1 || b != 0 || c != 1 {
		t.Error("tally", a, b, c, ok)
	}
	long := [][]impl.Call{slices.Repeat(progs[0], 11), nil}
	all := slices.Repeat(marksOf(called(0, done)), 33)
	if recs, ok := impl.Records(long, all); !ok || len(recs) != 33 || recs[32].Number != 32 || !impl.Orders(long, all) {
		t.Error("a long program", len(recs), ok)
	}
}

// hears and loses are what an OpRecv is told.
func hears(n int) impl.Reply { return impl.Reply{N: n, Msg: num(n)} }

func loses(m int) impl.Reply { return impl.Reply{M: m} }

func TestHeardByHand(t *testing.T) {
	progs := progsOf(t, "recv 0\nrecv 0 by 0\nrecv 1\nrecv 0\nawait 0\nrecv 0\nunsub 0\nrecv 0\n", "recv 0\nrecv 2\nrecv 0\n", "", "sub 0\nlook 0\ntell 0\n")
	waits := code(impl.Waits)
	call := func(who int, r impl.Reply) impl.Mark { return mark(stepCall(who), r) }
	end := func(who int, r impl.Reply) impl.Mark { return mark(stepEnd(who), r) }
	abort := func(who int, r impl.Reply) impl.Mark { return mark(stepAbort(who), r) }
	all := marksOf(call(0, hears(4)), call(1, hears(40)), call(0, loses(3)), call(1, loses(30)), call(0, hears(5)), call(0, waits), call(1, hears(7)), end(0, hears(9)), call(0, impl.Reply{N: 70}), call(3, impl.Reply{N: 60}), call(0, loses(2)), call(0, impl.Reply{N: 80}), call(0, hears(11)))
	for i, x := range []struct {
		list       []impl.Mark
		who, place int
		want       []int
		lost       int
	}{
		{nil, 0, 0, nil, 0}, {marksOf(call(0, hears(0))), 0, 0, []int{0}, 0}, {marksOf(call(0, hears(4))), 0, 0, []int{4}, 0}, {marksOf(call(0, loses(4))), 0, 0, nil, 4}, {marksOf(call(0, loses(4)), call(0, hears(4))), 0, 0, []int{4}, 4}, {marksOf(call(0, hears(4)), call(0, loses(4))), 0, 0, []int{4}, 4}, {marksOf(call(0, loses(4)), call(0, loses(5))), 0, 0, nil, 9}, {marksOf(call(0, hears(4)), call(0, hears(7))), 0, 0, []int{4, 7}, 0}, {marksOf(call(0, hears(7)), call(0, hears(4))), 0, 0, []int{7, 4}, 0}, {marksOf(call(0, hears(7)), call(0, hears(7))), 0, 0, []int{7, 7}, 0},
		{all, 0, 0, []int{4, 9, 11}, 5}, {all, 0, 1, []int{5}, 0}, {all, 0, 2, nil, 0}, {all, 0, -1, nil, 0}, {all, 0, math.MinInt, nil, 0}, {all, 0, math.MaxInt, nil, 0}, {all, 1, 0, []int{40, 7}, 0}, {all, 1, 2, nil, 30}, {all, 1, 1, nil, 0}, {all, 2, 0, nil, 0}, {all, 3, 0, nil, 0}, {all[:3], 0, 0, []int{4}, 3}, {all[:7], 0, 0, []int{4}, 3}, {all[:8], 0, 0, []int{4, 9}, 3},
		// Of what waits, and then is told.
		{marksOf(call(0, waits)), 0, 0, nil, 0}, {marksOf(call(0, waits), end(0, hears(6))), 0, 0, []int{6}, 0}, {marksOf(call(0, waits), end(0, loses(6))), 0, 0, nil, 6}, {marksOf(call(0, waits), end(0, waits)), 0, 0, nil, 0}, {marksOf(call(0, waits), end(0, waits), end(0, waits), end(0, hears(6)), call(0, hears(8))), 0, 0, []int{6, 8}, 0}, {marksOf(call(0, waits), abort(0, code(impl.Off))), 0, 0, nil, 0}, {marksOf(call(0, waits), abort(0, code(impl.Off)), call(0, hears(3))), 0, 0, []int{3}, 0}, {marksOf(call(0, waits), end(0, waits), abort(0, code(impl.Off))), 0, 0, nil, 0},
		// With other codes numbers don't count, whatever they are.
		{marksOf(call(0, impl.Reply{Code: impl.Over, N: 4})), 0, 0, nil, 0}, {marksOf(call(0, impl.Reply{Code: impl.Over, N: 4, M: 4})), 0, 0, nil, 0}, {marksOf(call(0, impl.Reply{Code: impl.None, M: 4}), call(0, impl.Reply{Code: impl.Off, M: 2})), 0, 0, nil, 0}, {marksOf(call(0, impl.Reply{Code: impl.Waits, N: 3, M: 4}), end(0, impl.Reply{Code: impl.Waits, N: 3}), end(0, impl.Reply{Code: impl.Over, M: 5})), 0, 0, nil, 0}, {marksOf(call(0, waits), abort(0, impl.Reply{Code: impl.Off, N: 3, M: 4})), 0, 0, nil, 0}, {marksOf(call(0, waits), abort(0, impl.Reply{Code: impl.Off, N: 3})), 0, 0, nil, 0},
		// All replies count, that of a StepAbort too; what is not 0 is no message, also below it.
		{marksOf(call(0, waits), abort(0, hears(3))), 0, 0, []int{3}, 0}, {marksOf(call(0, waits), abort(0, loses(3))), 0, 0, nil, 3}, {marksOf(call(0, impl.Reply{N: 5, M: 2, Msg: num(5)})), 0, 0, nil, 2}, {marksOf(call(0, loses(-2)), call(0, loses(5))), 0, 0, nil, 3}, {marksOf(call(0, impl.Reply{N: -5})), 0, 0, []int{-5}, 0}, {marksOf(call(0, impl.Reply{N: math.MinInt}), call(0, impl.Reply{N: math.MaxInt, M: math.MaxInt})), 0, 0, []int{math.MinInt}, math.MaxInt},
		// Another client's, another op's, and those of legs and ticks.
		{marksOf(call(1, hears(4))), 0, 0, nil, 0}, {marksOf(call(3, hears(4)), call(3, hears(5)), call(3, loses(6))), 3, 0, nil, 0}, {marksOf(mark(stepTick(), hears(4)), mark(stepLeg(0, 0), hears(5)), mark(stepLeg(0, 0), loses(5)), mark(impl.Step{}, hears(6))), 0, 0, nil, 0}, {marksOf(mark(stepTick(), hears(4)), call(0, hears(5)), mark(stepLeg(0, 0), loses(5))), 0, 0, []int{5}, 0},
		{marksOf(call(0, waits), call(1, waits), mark(stepLeg(0, 0), impl.Reply{}), end(1, hears(1)), end(0, hears(2)), call(0, hears(3))), 0, 0, []int{2, 3}, 0}, {marksOf(call(0, waits), call(1, waits), mark(stepLeg(0, 0), impl.Reply{}), end(1, hears(1)), end(0, hears(2)), call(0, hears(3))), 1, 0, []int{1}, 0},
	} {
		numbers, lost, ok := impl.Heard(progs, x.list, x.who, x.place)
		if !ok || !slices.Equal(numbers, x.want) || lost != x.lost {
			t.Error("heard", i, numbers, lost, ok)
		}
	}
	for _, who := range []int{-1, -2, 4, 5, 63, 64, 1 << 32, math.MinInt, math.MaxInt} {
		for _, list := range [][]impl.Mark{nil, all, all[:1]} {
			if numbers, lost, ok := impl.Heard(progs, list, who, 0); ok || len(numbers) != 0 || lost != 0 {
				t.Error("no client", who, numbers, lost, ok)
			}
		}
		if _, _, ok := impl.Heard(nil, nil, who, 0); ok {
			t.Error("no clients", who)
		}
	}
	if _, _, ok := impl.Heard(nil, nil, 0, 0); ok {
		t.Error("no clients, and the first of them")
	}
	if numbers, lost, ok := impl.Heard([][]impl.Call{nil}, nil, 0, 0); !ok || len(numbers) != 0 || lost != 0 {
		t.Error("a client without calls", numbers, lost, ok)
	}
}

// TestHeardByManyByHand has more clients than there can be in a run: each is a number of progs.
func TestHeardByManyByHand(t *testing.T) {
	progs := slices.Repeat(progsOf(t, "recv 3\n"), 70)
	var list []impl.Mark
	for who := range 70 {
		list = append(list, mark(stepCall(who), hears(100-who)))
	}
	for who := range 70 {
		if numbers, lost, ok := impl.Heard(progs, list, who, 3); !ok || !slices.Equal(numbers, []int{100 - who}) || lost != 0 {
			t.Error("heard", who, numbers, lost, ok)
		}
	}
	if _, _, ok := impl.Heard(progs, list, 70, 3); ok {
		t.Error("no client")
	}
}

func TestTallyByHand(t *testing.T) {
	waits, done, off := impl.Waits, impl.Done, impl.Off
	texts := []string{"tell 0\ntell 0\ntell 1\ntellall 0\nraise 0\n", "await 0\nawait 0 by 0\nawait 1 by 0\nstand 0 by 0\n", "", "await 0\ntell 0\nlatch 0 by 0\nrecv 0\n"}
	progs := progsOf(t, texts...)
	type answer struct{ told, wentOn, calledOff int }
	all := marksOf(called(0, done), called(1, waits), called(3, waits), called(0, done), ended(1, done), called(1, off), called(0, done), called(1, waits), aborted(1, off), called(0, done), called(0, done), called(1, off), ended(3, done), called(3, impl.Full), called(3, done), called(3, off))
	for i, x := range []struct {
		list []impl.Mark
		note int
		want answer
	}{
		{nil, 0, answer{}}, {marksOf(called(0, done)), 0, answer{1, 0, 0}}, {marksOf(called(0, done), called(0, done)), 0, answer{2, 0, 0}}, {marksOf(called(0, done), called(0, done), called(0, done), called(0, done), called(0, done)), 0, answer{2, 0, 0}}, {marksOf(called(0, done), called(0, done), called(0, done), called(0, done), called(0, done)), 1, answer{1, 0, 0}}, {marksOf(called(0, off), called(0, impl.Full), called(0, done)), 0, answer{}}, {marksOf(called(0, off), called(0, impl.Full), called(0, off)), 1, answer{}},
		{marksOf(called(1, done)), 0, answer{0, 1, 0}}, {marksOf(called(1, done)), 1, answer{}}, {marksOf(called(1, off)), 0, answer{0, 0, 1}}, {marksOf(called(1, done), called(1, off), called(1, done), called(1, off)), 0, answer{0, 1, 1}}, {marksOf(called(1, done), called(1, off), called(1, done), called(1, off)), 1, answer{0, 1, 0}}, {marksOf(called(1, off), called(1, off), called(1, off), called(1, done)), 0, answer{0, 0, 2}}, {marksOf(called(1, off), called(1, off), called(1, off), called(1, done)), 1, answer{0, 0, 1}},
		// One that waited first, waits still, or was called off.
		{marksOf(called(1, waits)), 0, answer{}}, {marksOf(called(1, waits), ended(1, waits)), 0, answer{}}, {marksOf(called(1, waits), ended(1, done)), 0, answer{0, 1, 0}}, {marksOf(called(1, waits), ended(1, waits), ended(1, done)), 0, answer{0, 1, 0}}, {marksOf(called(1, waits), ended(1, off)), 0, answer{0, 0, 1}}, {marksOf(called(1, waits), ended(1, impl.None)), 0, answer{}}, {marksOf(called(1, waits), aborted(1, off)), 0, answer{0, 0, 1}}, {marksOf(called(1, waits), ended(1, waits), aborted(1, off)), 0, answer{0, 0, 1}}, {marksOf(called(1, waits), aborted(1, done)), 0, answer{0, 1, 0}}, {marksOf(called(1, waits), aborted(1, waits)), 0, answer{}}, {marksOf(called(1, waits), aborted(1, impl.None)), 0, answer{}},
		{marksOf(called(0, waits)), 0, answer{}}, {marksOf(called(0, waits), ended(0, done)), 0, answer{1, 0, 0}}, {marksOf(called(0, waits), aborted(0, off)), 0, answer{}},
		{all, 0, answer{2, 2, 1}}, {all, 1, answer{1, 0, 1}}, {all, 2, answer{}}, {all, -1, answer{}}, {all, 8, answer{}}, {all, 1 << 32, answer{}}, {all, math.MinInt, answer{}}, {all, math.MaxInt, answer{}}, {all[:12], 0, answer{2, 1, 1}}, {all[:5], 0, answer{2, 1, 0}}, {all[:3], 0, answer{1, 0, 0}},
		{marksOf(mark(stepTick(), impl.Reply{}), mark(stepLeg(0, 0), impl.Reply{}), mark(impl.Step{Kind: 6}, code(off))), 0, answer{}},
	} {
		a, b, c, ok := impl.Tally(progs, x.list, x.note)
		if !ok || (answer{a, b, c}) != x.want {
			t.Error("tally", i, a, b, c, ok)
		}
	}
	// Of each code alone.
	for _, n := range codesBut(waits) {
		want := map[int][2]answer{done: {{1, 0, 0}, {0, 1, 0}}, off: {{}, {0, 0, 1}}}[n]
		for i, list := range [][]impl.Mark{marksOf(called(0, n)), marksOf(called(1, n)), marksOf(called(0, waits), ended(0, n)), marksOf(called(1, waits), ended(1, n)), marksOf(called(0, waits), aborted(0, n)), marksOf(called(1, waits), aborted(1, n))} {
			if a, b, c, ok := impl.Tally(progs, list, 0); !ok || (answer{a, b, c}) != want[i%2] {
				t.Error("tally of a code", n, i, a, b, c, ok)
			}
		}
	}
	for _, none := range [][][]impl.Call{nil, {nil}} {
		for _, note := range []int{-1, 0, 1} {
			if a, b, c, ok := impl.Tally(none, nil, note); !ok || (answer{a, b, c}) != (answer{}) {
				t.Error("no calls", note, a, b, c, ok)
			}
		}
	}
}

// TestHistoryOfARunByHand has one run's marks written out, and what they tell.
func TestHistoryOfARunByHand(t *testing.T) {
	p := impl.Plan{Tokens: []int{-1}, Notes: 2, Names: []string{"a"}, Caps: []int{2}}
	texts := []string{"sub 0\nrecv 0\nrecv 0\nrecv 0\nawait 0 by 0\n", "pub a 1\npub a 2\npub a 3\ntell 0\ncancel 0\n", "await 0\nawait 1\n"}
	s, progs := begun(t, p, texts...), progsOf(t, texts...)
	end, marks := impl.Run(s, []int{0, 2, 0, 1, 0, 0, 0, 0, 0, 0, 0, 0, 0, 0, 0, 0})
	var kinds []string
	for _, m := range marks {
		kinds = append(kinds, []string{"", "call", "end", "abort"}[m.Step.Kind]+" "+string(rune('0'+m.Step.Who)))
	}
	if want := "call 0,call 2,call 0,call 1,end 0,call 0,call 1,end 0,call 0,call 1,end 0,call 0,call 1,call 1,abort 0,end 2"; strings.Join(kinds, ",") != want {
		t.Fatal("another run", kinds)
	}
	checkRecords(t, "a run", progs, marks,
		told{0, 0, 0, 0, 0}, told{2, 0, 1, 15, 0}, told{0, 1, 2, 4, 0}, told{1, 0, 3, 3, 0}, told{0, 2, 5, 7, 0}, told{1, 1, 6, 6, 0}, told{0, 3, 8, 10, 0}, told{1, 2, 9, 9, 0}, told{0, 4, 11, 14, impl.Off}, told{1, 3, 12, 12, 0}, told{1, 4, 13, 13, 0})
	if numbers, lost, ok := impl.Heard(progs, marks, 0, 0); !ok || !slices.Equal(numbers, []int{0, 1, 2}) || lost != 0 {
		t.Error("heard", numbers, lost, ok)
	}
	if a, b, c, ok := impl.Tally(progs, marks, 0); !ok || a != 1 || b != 1 || c != 1 || end.Hub.Notes[0].Taken != 1 {
		t.Error("tally", a, b, c, ok)
	}
	late, marks := impl.Run(s, []int{0, 1, 1, 1, 0, 0, 0, 0})
	if numbers, lost, ok := impl.Heard(progs, marks, 0, 0); !ok || !slices.Equal(numbers, []int{1, 2}) || lost != 1 || late.Clients[0].At != 4 {
		t.Error("heard late", numbers, lost, ok)
	}
}
