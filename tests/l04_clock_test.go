package tests

import (
	"math"
	"math/rand/v2"
	"slices"
	"testing"

	"loop.example/g00098/impl"
)

// clock has a timer for each pair, a time and a token.
func clock(now int, pairs ...[2]int) impl.Clock {
	c := impl.Clock{Now: now}
	for _, p := range pairs {
		c.Timers = append(c.Timers, impl.Timer{At: p[0], Token: p[1]})
	}
	return c
}

// row has n timers, of which the first is at that time, each next one by step later, with the tokens gone round.
func row(now int, first int, step int, n int) impl.Clock {
	c := impl.Clock{Now: now}
	for i := range n {
		c.Timers = append(c.Timers, impl.Timer{At: first + i*step, Token: i * 7 % impl.MaxTokens})
	}
	return c
}

func cloneClock(c impl.Clock) impl.Clock {
	return impl.Clock{Now: c.Now, Timers: slices.Clone(c.Timers)}
}

func sameClock(a impl.Clock, b impl.Clock) bool {
	return a.Now == b.Now && slices.Equal(a.Timers, b.Timers)
}

func rightClocks() []impl.Clock {
	top := impl.MaxTime
	list := []impl.Clock{
		{}, {Timers: []impl.Timer{}}, {Now: 1}, {Now: top - 1}, {Now: top},
		clock(0, [2]int{1, 0}), clock(0, [2]int{top, 23}), clock(7, [2]int{8, 5}), clock(top-1, [2]int{top, 0}),
		clock(0, [2]int{1, 0}, [2]int{1, 0}), clock(0, [2]int{1, 23}, [2]int{1, 0}), clock(0, [2]int{1, 3}, [2]int{2, 1}, [2]int{top, 2}),
		clock(5, [2]int{6, 2}, [2]int{6, 1}, [2]int{6, 2}, [2]int{9, 1}, [2]int{9, 3}, [2]int{9, 1}, [2]int{10, 2}),
		clock(top-3, [2]int{top - 2, 4}, [2]int{top - 1, 4}, [2]int{top, 4}, [2]int{top, 3}),
	}
	for _, n := range []int{2, 3, 8, impl.MaxTokens, impl.MaxTimers - 1, impl.MaxTimers} {
		list = append(list, row(0, 1, 0, n), row(0, 1, 1, n), row(3, 5, 2, n), row(100, 1000, 100000, n), row(top-n, top-n+1, 1, n), row(top-1, top, 0, n))
	}
	return list
}

// wrongClocks are not ClockOk, each for a reason of its own, some for several.
func wrongClocks() []impl.Clock {
	top := impl.MaxTime
	var list []impl.Clock
	for _, now := range []int{-1, -2, top + 1, top + 2, 1 << 32, -1 << 32, math.MinInt, math.MaxInt} {
		list = append(list, impl.Clock{Now: now}, clock(now, [2]int{5, 1}), clock(now, [2]int{now + 1, 1}), row(now, now+1, 0, impl.MaxTimers), row(now, 1, 1, impl.MaxTimers+1))
	}
	for _, at := range []int{-1, 0, 9, 10, top + 1, top + 2, 1 << 32, math.MinInt, math.MaxInt} {
		list = append(list, clock(10, [2]int{at, 0}), clock(10, [2]int{11, 0}, [2]int{at, 0}), clock(10, [2]int{at, 0}, [2]int{top, 0}), clock(10, [2]int{12, 3}, [2]int{at, 3}, [2]int{14, 3}))
	}
	for _, token := range []int{-1, -2, 24, 25, 256, 1 << 32, math.MinInt, math.MaxInt} {
		list = append(list, clock(0, [2]int{1, token}), clock(0, [2]int{1, 0}, [2]int{1, token}), clock(0, [2]int{1, token}, [2]int{2, 0}), clock(0, [2]int{2, token}, [2]int{1, token}))
	}
	for _, n := range []int{impl.MaxTimers + 1, impl.MaxTimers + 2, 1000} {
		list = append(list, row(0, 1, 0, n), row(0, 1, 1, n), row(0, n, -1, n), row(-1, 0, 0, n), row(top, top, 0, n))
	}
	list = append(list,
		clock(0, [2]int{0, 0}), clock(top, [2]int{top, 0}), clock(top, [2]int{top + 1, 0}), clock(top-1, [2]int{top, 0}, [2]int{top + 1, 0}),
		clock(0, [2]int{2, 0}, [2]int{1, 0}), clock(0, [2]int{1, 0}, [2]int{3, 0}, [2]int{2, 0}), clock(0, [2]int{3, 0}, [2]int{1, 0}, [2]int{2, 0}), clock(0, [2]int{2, 1}, [2]int{3, 1}, [2]int{3, 1}, [2]int{2, 1}),
		clock(4, [2]int{6, 0}, [2]int{5, 0}, [2]int{4, 0}), row(0, impl.MaxTimers, -1, impl.MaxTimers),
	)
	for _, place := range []int{0, 1, 20, 38, 39} {
		for _, x := range []impl.Timer{{At: 3, Token: 1}, {At: 2000, Token: 1}, {At: impl.MaxTime + 1, Token: 1}, {At: 50, Token: 24}, {At: 50, Token: -1}} {
			c := row(3, 50, 0, impl.MaxTimers)
			c.Timers[place] = x
			if place < 39 || x.At != 2000 {
				list = append(list, c)
			}
		}
	}
	return list
}

// oddTimes are numbers at the edges of what may still be set or gone on by.
func oddTimes(c impl.Clock) []int {
	left := impl.MaxTime - c.Now
	list := []int{math.MinInt, math.MinInt + 1, -impl.MaxTime, -2, -1, 0, 1, 2, 3, left - 1, left, left + 1, impl.MaxTime - 1, impl.MaxTime, impl.MaxTime + 1, 1 << 32, math.MaxInt - impl.MaxTime, math.MaxInt - c.Now, math.MaxInt - c.Now + 1, math.MaxInt - 1, math.MaxInt}
	for i, x := range c.Timers {
		if i < 3 || i == len(c.Timers)-1 {
			list = append(list, x.At-c.Now-1, x.At-c.Now, x.At-c.Now+1)
		}
	}
	slices.Sort(list)
	return slices.Compact(list)
}

func oddTimerTokens() []int {
	return []int{math.MinInt, -1 << 32, -2, -1, 0, 1, 2, 3, 7, impl.MaxTokens - 1, impl.MaxTokens, impl.MaxTokens + 1, 256, 1 << 32, math.MaxInt}
}

func clockIsRight(c impl.Clock) bool {
	if c.Now < 0 || c.Now > 1000000000 || len(c.Timers) > 40 {
		return false
	}
	for i, x := range c.Timers {
		if x.At <= c.Now || x.At > 1000000000 || x.Token < 0 || x.Token > 23 || i > 0 && c.Timers[i-1].At > x.At {
			return false
		}
	}
	return true
}

// goesPast asks whether both together, of which the first is 0 .. MaxTime, are above MaxTime.
func goesPast(now int, more int) bool {
	return more > 1000000000 || now+more > 1000000000
}

func roomyClock(c impl.Clock) impl.Clock {
	return impl.Clock{Now: c.Now, Timers: roomyWith(c.Timers, impl.Timer{At: filler, Token: filler})}
}

// checkClockApart looks at the argument, and at the lists that were answered.
func checkClockApart(t *testing.T, what string, given impl.Clock, c impl.Clock, answer impl.Clock, gone []int) {
	t.Helper()
	change := func(x impl.Timer) impl.Timer { return impl.Timer{At: x.At + 1000003, Token: x.Token + 5} }
	told := slices.Clone(gone)
	checkApartWith(t, what, given.Timers, c.Timers, impl.Timer{At: filler, Token: filler}, change, answer.Timers)
	if !slices.Equal(gone, told) {
		t.Errorf("%s: its lists share memory: %v", what, c)
	}
}

func checkClockOk(t *testing.T, c impl.Clock) {
	t.Helper()
	given := roomyClock(c)
	if ok := impl.ClockOk(given); ok != clockIsRight(c) {
		t.Errorf("ClockOk(%v) = %v", c, ok)
	}
	checkClockApart(t, "ClockOk", given, c, impl.Clock{}, nil)
}

func checkSetTimer(t *testing.T, c impl.Clock, in int, token int) {
	t.Helper()
	want, code := cloneClock(c), impl.Done
	switch {
	case !clockIsRight(c), in < 1, token < 0, token > 23, goesPast(c.Now, in):
		code = impl.Bad
	case len(c.Timers) == 40:
		code = impl.Full
	default:
		place := 0
		for place < len(c.Timers) && c.Timers[place].At <= c.Now+in {
			place++
		}
		want.Timers = slices.Insert(want.Timers, place, impl.Timer{At: c.Now + in, Token: token})
	}
	given := roomyClock(c)
	d, got := impl.SetTimer(given, in, token)
	if !sameClock(d, want) || got != code {
		t.Errorf("SetTimer(%v, %d, %d) = %v, %d; want %v, %d", c, in, token, d, got, want, code)
	}
	checkClockApart(t, "SetTimer", given, c, d, nil)
}

func checkStopTimer(t *testing.T, c impl.Clock, token int) {
	t.Helper()
	want, count := cloneClock(c), 0
	if clockIsRight(c) {
		want.Timers = nil
		for _, x := range c.Timers {
			if x.Token == token {
				count++
			} else {
				want.Timers = append(want.Timers, x)
			}
		}
	}
	given := roomyClock(c)
	d, n := impl.StopTimer(given, token)
	if !sameClock(d, want) || n != count {
		t.Errorf("StopTimer(%v, %d) = %v, %d; want %v, %d", c, token, d, n, want, count)
	}
	checkClockApart(t, "StopTimer", given, c, d, nil)
}

func checkAdvance(t *testing.T, c impl.Clock, by int) {
	t.Helper()
	want, gone, code := cloneClock(c), []int(nil), impl.Done
	if !clockIsRight(c) || by < 0 || goesPast(c.Now, by) {
		code = impl.Bad
	} else {
		want = impl.Clock{Now: c.Now + by}
		for _, x := range c.Timers {
			if x.At > want.Now {
				want.Timers = append(want.Timers, x)
			} else {
				gone = append(gone, x.Token)
			}
		}
	}
	given := roomyClock(c)
	d, list, got := impl.Advance(given, by)
	if !sameClock(d, want) || !slices.Equal(list, gone) || got != code {
		t.Errorf("Advance(%v, %d) = %v, %v, %d; want %v, %v, %d", c, by, d, list, got, want, gone, code)
	}
	checkClockApart(t, "Advance", given, c, d, list)
}

// checkClock asks every function of the chapter at c.
func checkClock(t *testing.T, c impl.Clock, times []int, tokens []int) {
	t.Helper()
	checkClockOk(t, c)
	for _, token := range tokens {
		checkStopTimer(t, c, token)
		for _, in := range times {
			checkSetTimer(t, c, in, token)
		}
	}
	for _, by := range times {
		checkAdvance(t, c, by)
	}
}

func TestClockLimits(t *testing.T) {
	if impl.MaxTimers != 40 || impl.MaxTime != 1000000000 {
		t.Error("constants", impl.MaxTimers, impl.MaxTime)
	}
	for _, c := range rightClocks() {
		if !impl.ClockOk(c) {
			t.Error("not right", c)
		}
	}
	for _, c := range wrongClocks() {
		if impl.ClockOk(c) {
			t.Error("right", c)
		}
	}
}

func TestClocksAtTheirEdges(t *testing.T) {
	for _, c := range append(rightClocks(), wrongClocks()...) {
		checkClock(t, c, oddTimes(c), oddTimerTokens())
	}
}

// eachClock hands over all lists of just n timers, with each of those times and each of those tokens.
func eachClock(now int, n int, times []int, tokens []int, visit func(c impl.Clock)) {
	var each func(c impl.Clock)
	each = func(c impl.Clock) {
		if len(c.Timers) == n {
			visit(c)
			return
		}
		for _, at := range times {
			for _, token := range tokens {
				each(impl.Clock{Now: now, Timers: append(slices.Clone(c.Timers), impl.Timer{At: at, Token: token})})
			}
		}
	}
	each(impl.Clock{Now: now})
}

// TestEveryFewTimers goes through all lists of up to three, right ones and wrong ones, at the least times and at the greatest.
func TestEveryFewTimers(t *testing.T) {
	top := impl.MaxTime
	for n := range 4 {
		for now := -1; now <= 2; now++ {
			eachClock(now, n, upTo(0, 4), []int{0, 1, 24}, func(c impl.Clock) {
				checkClock(t, c, upTo(-1, 6), []int{-1, 0, 1, 2, 24})
			})
		}
		for now := top - 2; now <= top+1; now++ {
			eachClock(now, n, upTo(top-2, 4), []int{0, 23}, func(c impl.Clock) {
				checkClock(t, c, upTo(-1, 6), []int{-1, 0, 23, 24})
			})
		}
	}
}

// TestEveryRightFewTimers goes through longer lists, all of them right: each way in which some are of one time.
func TestEveryRightFewTimers(t *testing.T) {
	for n := 4; n <= 6; n++ {
		eachClock(3, n, []int{4, 5, 6}, []int{2}, func(c impl.Clock) {
			for i := range c.Timers {
				c.Timers[i].Token = i % 4
			}
			if clockIsRight(c) {
				checkClock(t, c, upTo(0, 5), upTo(0, 5))
			}
		})
	}
}

func TestSetTimerWhereItIsFull(t *testing.T) {
	top := impl.MaxTime
	for _, full := range []impl.Clock{row(9, 10, 0, 40), row(9, 10, 1, 40), row(9, top, 0, 40)} {
		for _, x := range []struct{ in, token, code int }{
			{1, 0, impl.Full}, {1, 23, impl.Full}, {5, 3, impl.Full}, {top - 9, 3, impl.Full},
			{0, 3, impl.Bad}, {-1, 3, impl.Bad}, {1, -1, impl.Bad}, {1, 24, impl.Bad}, {top - 8, 3, impl.Bad}, {math.MaxInt, 3, impl.Bad}, {math.MinInt, 3, impl.Bad},
		} {
			if d, code := impl.SetTimer(full, x.in, x.token); code != x.code || !sameClock(d, full) {
				t.Error("set where it is full", x, d, code)
			}
		}
		last := impl.Clock{Now: 9, Timers: full.Timers[:39]}
		x := full.Timers[39]
		if d, code := impl.SetTimer(last, x.At-9, x.Token); code != impl.Done || !sameClock(d, full) {
			t.Error("the last one that fits", d, code)
		}
		over := impl.Clock{Now: 9, Timers: append(slices.Clone(full.Timers), impl.Timer{At: top, Token: 3})}
		if d, code := impl.SetTimer(over, 1, 3); code != impl.Bad || !sameClock(d, over) {
			t.Error("set where there are too many", d, code)
		}
	}
}

// TestClockByHand has its answers written out, so that it leans on no second way to work them out.
func TestClockByHand(t *testing.T) {
	c := clock(20, [2]int{22, 4}, [2]int{22, 1}, [2]int{25, 4}, [2]int{25, 0}, [2]int{31, 1})
	for _, x := range []struct {
		by   int
		gone []int
		left int
	}{{0, nil, 5}, {1, nil, 5}, {2, []int{4, 1}, 3}, {4, []int{4, 1}, 3}, {5, []int{4, 1, 4, 0}, 1}, {10, []int{4, 1, 4, 0}, 1}, {11, []int{4, 1, 4, 0, 1}, 0}, {12, []int{4, 1, 4, 0, 1}, 0}, {impl.MaxTime - 20, []int{4, 1, 4, 0, 1}, 0}} {
		want := impl.Clock{Now: 20 + x.by, Timers: c.Timers[5-x.left:]}
		if d, gone, code := impl.Advance(c, x.by); code != impl.Done || !slices.Equal(gone, x.gone) || !sameClock(d, want) {
			t.Error("advance", x.by, d, gone, code)
		}
	}
	for _, x := range []struct{ in, place int }{{1, 0}, {2, 2}, {3, 2}, {5, 4}, {6, 4}, {11, 5}, {12, 5}, {impl.MaxTime - 20, 5}} {
		want := impl.Clock{Now: 20, Timers: slices.Insert(slices.Clone(c.Timers), x.place, impl.Timer{At: 20 + x.in, Token: 9})}
		if d, code := impl.SetTimer(c, x.in, 9); code != impl.Done || !sameClock(d, want) {
			t.Error("set", x.in, d, code)
		}
	}
	for _, x := range []struct {
		token int
		want  impl.Clock
		count int
	}{
		{4, clock(20, [2]int{22, 1}, [2]int{25, 0}, [2]int{31, 1}), 2},
		{1, clock(20, [2]int{22, 4}, [2]int{25, 4}, [2]int{25, 0}), 2},
		{0, clock(20, [2]int{22, 4}, [2]int{22, 1}, [2]int{25, 4}, [2]int{31, 1}), 1},
		{2, c, 0}, {-1, c, 0}, {24, c, 0}, {math.MaxInt, c, 0},
	} {
		if d, n := impl.StopTimer(c, x.token); n != x.count || !sameClock(d, x.want) {
			t.Error("stop", x.token, d, n)
		}
	}
}

// cutsOf are the places at which by is cut in two: all of them, or of a long way the first and last ones and those at each timer.
func cutsOf(c impl.Clock, by int) []int {
	if by <= 60 {
		return upTo(0, by+1)
	}
	list := []int{0, 1, by / 2, by - 1, by}
	for _, x := range c.Timers {
		for _, cut := range []int{x.At - c.Now - 1, x.At - c.Now, x.At - c.Now + 1} {
			if cut <= by {
				list = append(list, cut)
			}
		}
	}
	return list
}

func checkInTwoParts(t *testing.T, c impl.Clock, by int) {
	t.Helper()
	atOnce, all, code := impl.Advance(c, by)
	if code != impl.Done {
		t.Fatal("at once", c, by, code)
	}
	for _, cut := range cutsOf(c, by) {
		d, first, codeA := impl.Advance(c, cut)
		e, second, codeB := impl.Advance(d, by-cut)
		if codeA != impl.Done || codeB != impl.Done || !sameClock(e, atOnce) || !slices.Equal(append(first, second...), all) {
			t.Fatal("in two parts", c, by, cut, e, first, second)
		}
	}
}

func TestAdvanceInTwoParts(t *testing.T) {
	for _, c := range rightClocks() {
		for _, by := range oddTimes(c) {
			if by >= 0 && !goesPast(c.Now, by) {
				checkInTwoParts(t, c, by)
			}
		}
	}
	for seed := range uint64(40) {
		c := someClock(rand.New(rand.NewPCG(seed, 4)), int(seed)+1)
		for by := range 25 {
			checkInTwoParts(t, c, by)
		}
	}
}

// someClock has n timers within the next twenty, set in any order.
func someClock(r *rand.Rand, n int) impl.Clock {
	c := impl.Clock{Now: r.IntN(1000)}
	for range n {
		c, _ = impl.SetTimer(c, r.IntN(20)+1, r.IntN(impl.MaxTokens))
	}
	return c
}

// TestStepByStep goes on by one: each timer is told at the step that comes to its time, at none ahead of it and none behind.
func TestStepByStep(t *testing.T) {
	for seed := range uint64(60) {
		c := someClock(rand.New(rand.NewPCG(seed, 5)), int(seed)%impl.MaxTimers+1)
		timers, start := c.Timers, c.Now
		for now := start + 1; now <= start+22; now++ {
			var want []int
			for _, x := range timers {
				if x.At == now {
					want = append(want, x.Token)
				}
			}
			d, gone, code := impl.Advance(c, 1)
			if code != impl.Done || d.Now != now || !slices.Equal(gone, want) || !impl.ClockOk(d) {
				t.Fatal("step", c, d, gone, want, code)
			}
			c = d
		}
		if len(c.Timers) != 0 {
			t.Fatal("never told", c)
		}
	}
}

// TestTheTimeIsMetExactly has one timer, and one that is as late as it can be.
func TestTheTimeIsMetExactly(t *testing.T) {
	for _, in := range []int{1, 2, 3, 1000, impl.MaxTime - 6, impl.MaxTime - 5} {
		c, code := impl.SetTimer(impl.Clock{Now: 5}, in, 7)
		if code != impl.Done {
			t.Fatal("set", in, code)
		}
		if d, gone, code := impl.Advance(c, in-1); code != impl.Done || len(gone) != 0 || len(d.Timers) != 1 || !impl.ClockOk(d) {
			t.Error("early", in, d, gone, code)
		}
		if d, gone, code := impl.Advance(c, in); code != impl.Done || !slices.Equal(gone, []int{7}) || !sameClock(d, impl.Clock{Now: 5 + in}) {
			t.Error("late", in, d, gone, code)
		}
	}
}

// TestTimersOfOneTime sets as many as there can be to go off at one time, from several times on, with others set, told and stopped between them.
func TestTimersOfOneTime(t *testing.T) {
	const end = 100
	var c impl.Clock
	var want []int
	for i := 0; i < impl.MaxTokens-2; i++ {
		token := i * 5 % (impl.MaxTokens - 2)
		c = mustSet(t, c, end-c.Now, token)
		want = append(want, token)
		switch i % 4 {
		case 0: // One ahead of it, which is told.
			d, gone, code := impl.Advance(mustSet(t, c, 1, 22), 1)
			if code != impl.Done || !slices.Equal(gone, []int{22}) {
				t.Fatal("told between", d, gone, code)
			}
			c = d
		case 1: // One of its time and one behind it, which are stopped.
			d, n := impl.StopTimer(mustSet(t, mustSet(t, c, end-c.Now, 23), end+1-c.Now, 23), 23)
			if n != 2 || !sameClock(d, c) {
				t.Fatal("stopped between", d, n)
			}
			c = d
		case 2: // One behind it, which stays.
			c = mustSet(t, c, end+3-c.Now, 22)
		case 3: // One of those of its time, which is stopped.
			d, n := impl.StopTimer(c, want[i/2])
			if n != 1 {
				t.Fatal("stopped one of them", d, n)
			}
			c, want[i/2] = d, -1
		}
	}
	want = slices.DeleteFunc(want, func(token int) bool { return token == -1 })
	d, gone, code := impl.Advance(c, end-c.Now)
	if code != impl.Done || !slices.Equal(gone, want) || len(d.Timers) != 5 {
		t.Error("of one time", d, gone, want, code)
	}
}

func mustSet(t *testing.T, c impl.Clock, in int, token int) impl.Clock {
	t.Helper()
	d, code := impl.SetTimer(c, in, token)
	if code != impl.Done {
		t.Fatal("set", c, in, token, code)
	}
	return d
}

// setTimer is one that was set, with how many were set ahead of it.
type setTimer struct{ at, number, token int }

// timerBook remembers, in any order, what is still to go off.
type timerBook struct {
	left []setTimer
	set  int
}

func (b *timerBook) remember(at int, token int) {
	b.left = append(b.left, setTimer{at: at, number: b.set, token: token})
	b.set++
}

// due takes out those up to that time, by their times, those of one time as they were set.
func (b *timerBook) due(now int) []int {
	var list []int
	for {
		best := -1
		for i, x := range b.left {
			if x.at <= now && (best < 0 || x.at < b.left[best].at || x.at == b.left[best].at && x.number < b.left[best].number) {
				best = i
			}
		}
		if best < 0 {
			return list
		}
		list = append(list, b.left[best].token)
		b.left = slices.Delete(b.left, best, best+1)
	}
}

func (b *timerBook) stop(token int) int {
	before := len(b.left)
	b.left = slices.DeleteFunc(b.left, func(x setTimer) bool { return x.token == token })
	return before - len(b.left)
}

// TestClocksOverLongTimes holds a clock that is set, stopped and gone on with against a book of what was set.
func TestClocksOverLongTimes(t *testing.T) {
	for seed := range uint64(200) {
		r := rand.New(rand.NewPCG(seed, 6))
		span := []int{1, 3, 10, 40}[seed%4]
		var c impl.Clock
		var book timerBook
		for range 300 {
			c = oneChange(t, r, c, &book, span)
			if !impl.ClockOk(c) || len(c.Timers) != len(book.left) {
				t.Fatal("clock and book", c, book)
			}
		}
		if _, gone, code := impl.Advance(c, span+1); code != impl.Done || !slices.Equal(gone, book.due(c.Now+span+1)) {
			t.Fatal("at the end", c, gone, code)
		}
	}
}

func oneChange(t *testing.T, r *rand.Rand, c impl.Clock, book *timerBook, span int) impl.Clock {
	t.Helper()
	token := r.IntN(impl.MaxTokens)
	switch r.IntN(12) {
	case 0:
		d, n := impl.StopTimer(c, token)
		if n != book.stop(token) {
			t.Fatal("stop", c, token, d, n)
		}
		return d
	case 1, 2:
		by := r.IntN(span + 1)
		d, gone, code := impl.Advance(c, by)
		if code != impl.Done || d.Now != c.Now+by || !slices.Equal(gone, book.due(d.Now)) {
			t.Fatal("advance", c, by, d, gone, code)
		}
		return d
	}
	in := r.IntN(span) + 1
	d, code := impl.SetTimer(c, in, token)
	if (code == impl.Done) != (len(c.Timers) < impl.MaxTimers) || code != impl.Done && code != impl.Full {
		t.Fatal("set", c, in, token, code)
	}
	if code == impl.Done {
		book.remember(c.Now+in, token)
	}
	return d
}

// TestClocksKeepNothing spoils what is answered and asks once more.
func TestClocksKeepNothing(t *testing.T) {
	for _, c := range append(rightClocks(), wrongClocks()...) {
		for _, n := range []int{-1, 0, 1, 5} {
			set, _ := impl.SetTimer(c, n, 3)
			stopped, _ := impl.StopTimer(c, n)
			on, gone, _ := impl.Advance(c, n)
			kept := []impl.Clock{cloneClock(set), cloneClock(stopped), cloneClock(on)}
			keptGone := slices.Clone(gone)
			for _, list := range [][]impl.Timer{set.Timers, stopped.Timers, on.Timers} {
				spoilWith(list, func(x impl.Timer) impl.Timer { return impl.Timer{At: x.At + 1, Token: x.Token + 1} })
			}
			spoilWith(gone, func(token int) int { return token + 1 })
			set, _ = impl.SetTimer(c, n, 3)
			stopped, _ = impl.StopTimer(c, n)
			on, gone, _ = impl.Advance(c, n)
			for i, d := range []impl.Clock{set, stopped, on} {
				if !sameClock(d, kept[i]) {
					t.Error("another clock the second time", c, n, i, d)
				}
			}
			if !slices.Equal(gone, keptGone) {
				t.Error("other tokens the second time", c, n, gone)
			}
		}
	}
}
