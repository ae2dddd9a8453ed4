package tests

import (
	"math"
	"math/rand/v2"
	"slices"
	"testing"

	"loop.example/g00098/impl"
)

// upTo is a line of the clients first, first + 1 and so on, n in all.
func upTo(first int, n int) []int {
	var list []int
	for i := range n {
		list = append(list, first+i)
	}
	return list
}

func rightLines() [][]int {
	list := [][]int{nil, {}, {0}, {63}, {0, 63}, {63, 0}, {5, 3, 9}, {9, 5, 3}, {1, 2, 3, 4, 5, 6, 7}, {40, 12, 63, 0, 31, 32}}
	for n := range impl.MaxLine + 1 {
		back := upTo(impl.MaxWho-n, n)
		slices.Reverse(back)
		list = append(list, upTo(0, n), back)
	}
	return list
}

// wrongLines are not LineOk, each for a reason of its own, some for several.
func wrongLines() [][]int {
	full := upTo(0, impl.MaxLine)
	list := [][]int{
		{-1}, {64}, {impl.MaxWho}, {65}, {-2}, {math.MinInt}, {math.MaxInt}, {256}, {1 << 32},
		{0, -1}, {-1, 0}, {3, 64, 5}, {3, 5, 64}, {64, 3, 5},
		{0, 0}, {63, 63}, {1, 2, 1}, {1, 2, 2}, {2, 2, 1}, {7, 8, 9, 7}, {-1, -1}, {64, 64}, {7, 7, 64},
		upTo(0, impl.MaxLine+1), upTo(31, impl.MaxLine+1), upTo(0, impl.MaxWho), upTo(0, 1000), make([]int, 1000),
		append(slices.Clone(full), 0), append(slices.Clone(full), 64), append(slices.Clone(full), -1),
		append(upTo(0, impl.MaxLine-1), 0), append(upTo(0, impl.MaxLine-1), 30), append(upTo(0, impl.MaxLine-1), 64), append(upTo(1, impl.MaxLine-1), -1),
	}
	return list
}

// oddWhos are clients at their edges, and numbers that are none.
func oddWhos() []int {
	return []int{math.MinInt, -impl.MaxWho, -2, -1, 0, 1, 2, 5, 7, 30, 31, 32, 33, impl.MaxWho - 2, impl.MaxWho - 1, impl.MaxWho, impl.MaxWho + 1, 128, 256, 1 << 32, math.MaxInt}
}

func lineIsRight(line []int) bool {
	if len(line) > 32 {
		return false
	}
	for i, who := range line {
		if who < 0 || who > 63 || slices.Contains(line[:i], who) {
			return false
		}
	}
	return true
}

func checkJoin(t *testing.T, line []int, who int) {
	t.Helper()
	want, code := line, impl.Done
	switch {
	case !lineIsRight(line), who < 0, who > 63:
		code = impl.Bad
	case slices.Contains(line, who):
		code = impl.There
	case len(line) == 32:
		code = impl.Full
	default:
		want = append(slices.Clone(line), who)
	}
	given := roomy(line)
	l, c := impl.Join(given, who)
	if c != code || !slices.Equal(l, want) {
		t.Errorf("Join(%v, %d) = %v, %d; want %v, %d", line, who, l, c, want, code)
	}
	checkApart(t, "Join", given, line, l)
}

func checkLeave(t *testing.T, line []int, who int) {
	t.Helper()
	want, code := line, impl.Done
	switch {
	case !lineIsRight(line):
		code = impl.Bad
	case !slices.Contains(line, who):
		code = impl.None
	default:
		want = slices.DeleteFunc(slices.Clone(line), func(w int) bool { return w == who })
	}
	given := roomy(line)
	l, c := impl.Leave(given, who)
	if c != code || !slices.Equal(l, want) {
		t.Errorf("Leave(%v, %d) = %v, %d; want %v, %d", line, who, l, c, want, code)
	}
	checkApart(t, "Leave", given, line, l)
}

func checkWake(t *testing.T, line []int, n int) {
	t.Helper()
	most := 0
	if n >= 0 && lineIsRight(line) {
		most = min(n, len(line))
	}
	given := roomy(line)
	rest, woken := impl.Wake(given, n)
	if !slices.Equal(rest, line[most:]) || !slices.Equal(woken, line[:most]) {
		t.Errorf("Wake(%v, %d) = %v, %v", line, n, rest, woken)
	}
	checkApart(t, "Wake", given, line, rest, woken)
}

func checkPlaceOf(t *testing.T, line []int, who int) {
	t.Helper()
	given := roomy(line)
	if at := impl.PlaceOf(given, who); at != slices.Index(line, who) {
		t.Errorf("PlaceOf(%v, %d) = %d", line, who, at)
	}
	checkApart(t, "PlaceOf", given, line)
}

func checkLine(t *testing.T, line []int, whos []int, counts []int) {
	t.Helper()
	given := roomy(line)
	if impl.LineOk(given) != lineIsRight(line) {
		t.Errorf("LineOk(%v) = %v", line, !lineIsRight(line))
	}
	checkApart(t, "LineOk", given, line)
	for _, who := range whos {
		checkJoin(t, line, who)
		checkLeave(t, line, who)
		checkPlaceOf(t, line, who)
	}
	for _, n := range counts {
		checkWake(t, line, n)
	}
}

func TestLineLimits(t *testing.T) {
	if impl.MaxWho != 64 || impl.MaxLine != 32 {
		t.Error("constants", impl.MaxWho, impl.MaxLine)
	}
	for _, line := range rightLines() {
		if !impl.LineOk(line) {
			t.Error("not right", line)
		}
	}
	for _, line := range wrongLines() {
		if impl.LineOk(line) {
			t.Error("right", line)
		}
	}
}

func TestLinesAtTheirEdges(t *testing.T) {
	for _, line := range append(rightLines(), wrongLines()...) {
		counts := []int{math.MinInt, -impl.MaxLine, -2, -1, 0, 1, 2, len(line) - 1, len(line), len(line) + 1, impl.MaxLine, impl.MaxLine + 1, math.MaxInt}
		checkLine(t, line, append(oddWhos(), line...), counts)
	}
}

// TestEveryShortLine goes through all lists of up to five of the numbers that matter, wrong ones among them.
func TestEveryShortLine(t *testing.T) {
	numbers := []int{-1, 0, 1, 63, 64}
	counts := []int{-1, 0, 1, 2, 3, 4, 5, 6}
	var each func(line []int)
	each = func(line []int) {
		checkLine(t, line, numbers, counts)
		if len(line) == 5 {
			return
		}
		for _, n := range numbers {
			each(append(slices.Clone(line), n))
		}
	}
	each(nil)
}

func TestJoinToFullLine(t *testing.T) {
	full := upTo(0, impl.MaxLine)
	for _, c := range []struct{ who, code int }{{0, impl.There}, {17, impl.There}, {31, impl.There}, {32, impl.Full}, {63, impl.Full}, {64, impl.Bad}, {-1, impl.Bad}} {
		if l, code := impl.Join(full, c.who); code != c.code || !slices.Equal(l, full) {
			t.Error("join to a full line", c.who, code, l)
		}
	}
	if l, code := impl.Join(full[:31], 31); code != impl.Done || !slices.Equal(l, full) {
		t.Error("the last one that fits", code, l)
	}
	over := upTo(0, impl.MaxLine+1)
	for _, who := range []int{0, 32, 33, 63, 64} {
		if l, code := impl.Join(over, who); code != impl.Bad || !slices.Equal(l, over) {
			t.Error("join to one that is too long", who, code, l)
		}
	}
}

func TestWhoJoinsFirstIsWokenFirst(t *testing.T) {
	for n := range impl.MaxLine + 1 {
		for step := 1; step < impl.MaxWho; step += 2 {
			checkWokenInOrder(t, n, step)
		}
	}
}

// checkWokenInOrder lets n clients join and wakes them in parts of each size. (An odd step meets no client twice.)
func checkWokenInOrder(t *testing.T, n int, step int) {
	t.Helper()
	var line, joined []int
	for i := range n {
		who := (5 + i*step) % impl.MaxWho
		l, c := impl.Join(line, who)
		if c != impl.Done {
			t.Fatal("join", line, who, c)
		}
		line, joined = l, append(joined, who)
	}
	for part := 1; part <= n+1; part++ {
		rest, told := line, []int(nil)
		for len(rest) > 0 {
			l, woken := impl.Wake(rest, part)
			if len(woken) != min(part, len(rest)) || len(l) != len(rest)-len(woken) {
				t.Fatal("wake", rest, part, l, woken)
			}
			rest, told = l, append(told, woken...)
		}
		if !slices.Equal(told, joined) {
			t.Fatalf("joined %v, woken %v in parts of %d", joined, told, part)
		}
	}
}

func TestWhoHasLeftIsNotWoken(t *testing.T) {
	for n := 1; n <= impl.MaxLine; n++ {
		line := upTo(20, n)
		for i, who := range line {
			l, c := impl.Leave(line, who)
			others := slices.Delete(slices.Clone(line), i, i+1)
			if c != impl.Done || !slices.Equal(l, others) {
				t.Fatal("leave", line, who, l, c)
			}
			for k := 0; k <= n; k++ {
				rest, woken := impl.Wake(l, k)
				if slices.Contains(woken, who) || slices.Contains(rest, who) || !slices.Equal(append(woken, rest...), others) {
					t.Fatal("woken behind a leave", line, who, rest, woken)
				}
			}
			if again, c := impl.Leave(l, who); c != impl.None || !slices.Equal(again, others) {
				t.Fatal("left twice", line, who, again, c)
			}
			if back, c := impl.Join(l, who); c != impl.Done || !slices.Equal(back, append(slices.Clone(others), who)) {
				t.Fatal("back at the end", line, who, back, c)
			}
		}
	}
}

// TestLinesOverLongTimes holds a line against the time at which each one joined: the woken are always those of the least.
func TestLinesOverLongTimes(t *testing.T) {
	for seed := range uint64(40) {
		r := rand.New(rand.NewPCG(seed, 2))
		joined := map[int]int{}
		var line []int
		for now := range 400 {
			who := r.IntN(impl.MaxWho)
			_, there := joined[who]
			switch r.IntN(5) {
			case 0:
				l, c := impl.Leave(line, who)
				if (c == impl.Done) != there {
					t.Fatal("leave", line, who, c)
				}
				delete(joined, who)
				line = l
			case 1:
				l, woken := impl.Wake(line, r.IntN(4))
				checkLeast(t, joined, woken)
				line = l
			default:
				l, c := impl.Join(line, who)
				if (c == impl.Done) != (!there && len(line) < impl.MaxLine) {
					t.Fatal("join", line, who, c)
				}
				if c == impl.Done {
					joined[who] = now
				}
				line = l
			}
			if len(line) != len(joined) || !impl.LineOk(line) {
				t.Fatal("line", line, joined)
			}
		}
	}
}

func checkLeast(t *testing.T, joined map[int]int, woken []int) {
	t.Helper()
	for _, who := range woken {
		at, there := joined[who]
		if !there {
			t.Fatal("woken though it does not stand there", who)
		}
		for other, time := range joined {
			if time < at {
				t.Fatal("woken ahead of one that joined earlier", who, other)
			}
		}
		delete(joined, who)
	}
}

func TestPlaceOfAnyList(t *testing.T) {
	long := append(upTo(-500, 1000), upTo(-500, 1000)...)
	for _, c := range []struct {
		line      []int
		who, want int
	}{
		{nil, 0, -1},
		{[]int{}, -1, -1},
		{[]int{7, 7}, 7, 0},
		{[]int{3, 7, 5, 7}, 7, 1},
		{[]int{3, 7, 5, 7, 5}, 5, 2},
		{[]int{-1, 64, -1}, -1, 0},
		{[]int{0, 64, -1}, 64, 1},
		{[]int{math.MaxInt, math.MinInt}, math.MinInt, 1},
		{[]int{0}, -1, -1},
		{long, -500, 0},
		{long, 0, 500},
		{long, 499, 999},
		{long, 500, -1},
		{upTo(0, impl.MaxLine+1), 32, 32},
	} {
		if at := impl.PlaceOf(c.line, c.who); at != c.want {
			t.Error("place", c.who, at, c.want)
		}
	}
}
