package tests

import (
	"slices"
	"testing"

	"loop.example/g00098/impl"
)

// The tests of this file hold the program's answers against each other, as the promises say it.

// readerRings are right rings whose Sub 0 can read: each Cap, from far below Sent - Cap up to Sent, with filters that let pass all, some and nothing, beside one that has read all and waits, or one that is slower.
func readerRings() []impl.Ring {
	var list []impl.Ring
	for room := 1; room <= 16; room++ {
		for i, far := range []int{0, 1, room - 1, room, room + 1, room + 7, 40} {
			for j, f := range subFilters() {
				sent := 43 + room + j
				r := ringOf(room, sent, reads(0, 3, sent-far, f...), reads(7, 0, sent), reads(8, 0, sent-room/2))
				switch (i + j) % 3 {
				case 0:
					r.Line = []int{7}
				case 1:
					r = closedRing(r)
				default:
					r.Grants = []int{8, 7}
				}
				list = append(list, r)
			}
		}
	}
	return list
}

// pullOf ends the test where the answer is no right ring, or a refusal.
func pullOf(t *testing.T, r impl.Ring, n int) ringAnswer {
	t.Helper()
	var a ringAnswer
	a.r, a.tells, a.code = impl.Pull(r, 0, n)
	if !impl.RingOk(a.r) || a.code != impl.Done && a.code != impl.Waits && a.code != impl.Over {
		t.Fatal("pull", r, n, a)
	}
	return a
}

func skipOf(t *testing.T, r impl.Ring, number int) impl.Ring {
	t.Helper()
	d, code := impl.SkipTo(r, 0, number)
	if !impl.RingOk(d) || code != impl.Done {
		t.Fatal("skip", r, number, d, code)
	}
	return d
}

// TestPullInPartsIsPullAtOnce cuts each pulling in two wherever it can be cut.
func TestPullInPartsIsPullAtOnce(t *testing.T) {
	for _, r := range readerRings() {
		for n := range r.Cap + 4 {
			once := pullOf(t, r, n)
			for cut := range n + 1 {
				first := pullOf(t, r, cut)
				second := pullOf(t, first.r, n-cut)
				both := ringAnswer{r: second.r, tells: slices.Concat(first.tells, second.tells), code: second.code}
				if cut == n {
					// To pull none is Done, whatever is there: it does not ask.
					if second.code != impl.Done || len(second.tells) != 0 {
						t.Fatal("pull of none", r, n, second)
					}
					both.code = first.code
				}
				if !sameAnswer(both, once) {
					t.Fatal("in parts", r, n, cut, both, once)
				}
			}
		}
		if all := pullOf(t, r, impl.MaxPull); all.code == impl.Done || !sameAnswer(pullOf(t, r, r.Cap+2), all) {
			t.Fatal("there can't be more", r, all)
		}
	}
}

// TestPullInManyParts pulls again and again as many as one part has, until there is nothing more.
func TestPullInManyParts(t *testing.T) {
	for _, r := range readerRings() {
		all := pullOf(t, r, impl.MaxPull)
		for part := 1; part <= 5; part++ {
			var list []impl.Told
			d := r
			for a := (ringAnswer{code: impl.Done}); a.code == impl.Done; d = a.r {
				a = pullOf(t, d, part)
				list = append(list, a.tells...)
				if (len(a.tells) == part) != (a.code == impl.Done) || a.code != impl.Done && a.code != all.code {
					t.Fatal("part", d, part, a)
				}
			}
			if !slices.Equal(list, all.tells) || !sameRing(d, all.r) {
				t.Fatal("in many parts", r, part, list, d)
			}
		}
	}
}

// TestPullIsToReceive does so many Receives; the one that has to wait stops waiting.
func TestPullIsToReceive(t *testing.T) {
	for _, r := range readerRings() {
		want := ringAnswer{r: r}
		for n := range r.Cap + 4 {
			if a := pullOf(t, r, n); !sameAnswer(a, want) {
				t.Fatal("pull", r, n, a, want)
			}
			if want.code != impl.Done {
				continue
			}
			d, x, code := impl.Receive(want.r, 0)
			if code == impl.Done {
				want.tells = append(want.tells, x)
			}
			if code == impl.Waits {
				d, _ = impl.Unwait(d, 0)
			}
			want.r, want.code = d, code
		}
	}
}

// TestWhatIsPulledRises: the numbers rise, none is below the Cursor, a loss is ahead of all and tells what Lag told, and what is got, lost and passed by is counted by what was told.
func TestWhatIsPulledRises(t *testing.T) {
	for _, r := range readerRings() {
		before := subOf(r, 0)
		_, gone, _ := impl.Lag(r, 0)
		for n := range r.Cap + 4 {
			a := pullOf(t, r, n)
			least, got, lost := before.Cursor, 0, 0
			for i, x := range a.tells {
				switch {
				case x.Kind == impl.RLost && i == 0 && x.N == gone && gone > 0:
					least, lost = least+x.N, x.N
				case x.Kind == impl.RGot && x.Index >= least && x.Msg == sentAs(x.Index) && impl.Passes(before.Filter, x.Msg):
					least, got = x.Index+1, got+1
				default:
					t.Fatal("told", r, n, i, x)
				}
			}
			behind := subOf(a.r, 0)
			if behind.Got != before.Got+got || behind.Lost != before.Lost+lost || behind.Cursor < least || behind.Passed-before.Passed != behind.Cursor-before.Cursor-got-lost {
				t.Fatal("counts", r, n, before, behind)
			}
			// As long as it is Done nothing is read behind what was told last.
			if a.code == impl.Done && behind.Cursor != least || a.code != impl.Done && behind.Cursor != r.Sent {
				t.Fatal("cursor", r, n, behind)
			}
			if slices.Contains(a.r.Line, 0) || !slices.Equal(a.r.Line, r.Line) || !slices.Equal(a.r.Grants, r.Grants) || (a.code == impl.Over) && !r.Closed || (a.code == impl.Waits) && r.Closed {
				t.Fatal("waits", r, n, a)
			}
		}
	}
}

// TestWhatIsPeekedIsToldNext peeks ahead of each reading up to the one that tells nothing, and behind it.
func TestWhatIsPeekedIsToldNext(t *testing.T) {
	for _, r := range readerRings() {
		for last := impl.Done; last == impl.Done; {
			kept := cloneRing(r)
			x, code := impl.Peek(r, 0)
			if again, same := impl.Peek(r, 0); again != x || same != code || !sameRing(r, kept) {
				t.Fatal("peek changes something", r, x, again)
			}
			d, next, told := impl.Receive(r, 0)
			if x != next || code != told || (code == impl.Done) != (x.Kind != 0) {
				t.Fatal("not told next", r, x, next, code, told)
			}
			one := pullOf(t, r, 1)
			if code == impl.Done && !slices.Equal(one.tells, []impl.Told{x}) || code != impl.Done && len(one.tells) != 0 || one.code != code {
				t.Fatal("not pulled next", r, x, one)
			}
			r, last = d, code
		}
		if x, code := impl.Peek(r, 0); x != (impl.Told{}) || (code == impl.There) != slices.Contains(r.Line, 0) || code == impl.Done {
			t.Fatal("at its end", r, x, code)
		}
	}
}

// TestWhatIsSkippedIsNotGot skips to each number there is: what was to be told below it is told no more, and all else is told as it would have been.
func TestWhatIsSkippedIsNotGot(t *testing.T) {
	for _, r := range readerRings() {
		before, all := subOf(r, 0), pullOf(t, r, impl.MaxPull)
		_, gone, _ := impl.Lag(r, 0)
		for number := before.Cursor; number <= r.Sent; number++ {
			d := skipOf(t, r, number)
			s := subOf(d, 0)
			if s.Cursor != number || s.Got != before.Got || s.Lost-before.Lost+s.Passed-before.Passed != number-before.Cursor || s.Lost-before.Lost != min(gone, number-before.Cursor) {
				t.Fatal("counts", r, number, before, s)
			}
			behind, left, ok := impl.Lag(d, 0)
			if behind != r.Sent-number || left != gone-(s.Lost-before.Lost) || !ok {
				t.Fatal("lag", r, number, behind, left, ok)
			}
			var want []impl.Told
			if left > 0 {
				want = append(want, impl.Told{Kind: impl.RLost, N: left})
			}
			for _, x := range all.tells {
				if x.Kind == impl.RGot && x.Index >= number {
					want = append(want, x)
				}
			}
			rest := pullOf(t, d, impl.MaxPull)
			if !slices.Equal(rest.tells, want) || rest.code != all.code || subOf(rest.r, 0).Lost != before.Lost+gone {
				t.Fatal("behind it", r, number, rest, want)
			}
			if x, code := impl.Peek(d, 0); len(want) > 0 && (x != want[0] || code != impl.Done) || len(want) == 0 && code != all.code {
				t.Fatal("next", r, number, x, code)
			}
		}
	}
}

// TestSkipInPartsIsSkipAtOnce cuts each way in two.
func TestSkipInPartsIsSkipAtOnce(t *testing.T) {
	for i, r := range readerRings() {
		if i%3 != 0 {
			continue
		}
		cursor := subOf(r, 0).Cursor
		if d := skipOf(t, r, cursor); !sameRing(d, r) {
			t.Fatal("skip of none", r, d)
		}
		for number := cursor; number <= r.Sent; number++ {
			once := skipOf(t, r, number)
			for cut := cursor; cut <= number; cut++ {
				if d := skipOf(t, skipOf(t, r, cut), number); !sameRing(d, once) {
					t.Fatal("in parts", r, cut, number, d, once)
				}
			}
			for _, out := range []int{number - 1, r.Sent + 1} {
				if d, code := impl.SkipTo(once, 0, out); code != impl.Over || !sameRing(d, once) {
					t.Fatal("back or beyond", once, out, d, code)
				}
			}
		}
	}
}

// TestWhatAllHaveSkippedIsGone: a ring keeps what some Sub may still be told, and nothing else.
func TestWhatAllHaveSkippedIsGone(t *testing.T) {
	for room := 1; room <= 16; room++ {
		r := newRing(t, room, 2)
		var ids []int
		for range 12 {
			d, id := subscribeTo(t, r, nil, false)
			r, ids = d, append(ids, id)
		}
		for range 20 {
			r, _ = sendTo(t, r, num(r.Sent))
		}
		for i, id := range ids {
			d, code := impl.SkipTo(r, id, 10+i)
			if code != impl.Done || !impl.RingOk(d) {
				t.Fatal("skip", room, r, id, d, code)
			}
			r = d
			if i < 11 && len(r.Items) != room {
				t.Fatal("kept for the others", room, i, r)
			}
		}
		if len(r.Items) != min(room, 12) {
			t.Fatal("kept for the slowest", room, r)
		}
		var sum [3]int
		for i, id := range ids {
			s := subOf(r, id)
			if s.Lost != min(max(20-room, 0), 8+i) || s.Got != 0 || s.Lost+s.Passed != 8+i {
				t.Fatal("counts", room, i, s)
			}
			sum[1], sum[2] = sum[1]+s.Lost, sum[2]+s.Passed
		}
		if got, gone, passed := impl.Balance(r); [3]int{got, gone, passed} != sum || gone+passed != 12*8+66 {
			t.Fatal("balance", room, got, gone, passed)
		}
	}
}

// TestReadersAtEachPace has one Sub that pulls and one that skips to Sent behind each few sendings: all that was sent is got and lost by the one, passed by and lost by the other.
func TestReadersAtEachPace(t *testing.T) {
	for room := 1; room <= 16; room++ {
		for pace := 1; pace <= 36; pace++ {
			r := newRing(t, room, 2)
			r, pulls := subscribeTo(t, r, nil, false)
			r, skips := subscribeTo(t, r, nil, false)
			for round := 1; round <= 4; round++ {
				for range pace {
					r, _ = sendTo(t, r, num(10*r.Sent))
				}
				want := []impl.Told{}
				if pace > room {
					want = append(want, impl.Told{Kind: impl.RLost, N: pace - room})
				}
				for number := r.Sent - min(pace, room); number < r.Sent; number++ {
					want = append(want, impl.Told{Kind: impl.RGot, Msg: num(10 * number), Index: number})
				}
				d, list, code := impl.Pull(r, pulls, impl.MaxPull)
				if code != impl.Waits || !slices.Equal(list, want) || len(d.Items) != min(pace, room) || len(d.Line) != 0 {
					t.Fatal("pull", room, pace, d, list, code)
				}
				if d, list, code = impl.Pull(d, pulls, 1); code != impl.Waits || len(list) != 0 || len(d.Line) != 0 {
					t.Fatal("nothing more", room, pace, d, list, code)
				}
				if r, code = impl.SkipTo(d, skips, d.Sent); code != impl.Done || len(r.Items) != 0 {
					t.Fatal("skip", room, pace, r, code)
				}
				all, lost := round*pace, round*max(pace-room, 0)
				if got, gone, passed := impl.Balance(r); got != all-lost || gone != 2*lost || passed != all-lost {
					t.Fatal("balance", room, pace, got, gone, passed)
				}
			}
		}
	}
}
