package tests

import (
	"fmt"
	"math"
	"slices"
	"testing"

	"loop.example/g00098/impl"
)

// tellings are all that a Sub of a right ring can be told, as they stand one behind the other: no reading is done for it.
func tellings(r impl.Ring, id int) []impl.Told {
	s := subOf(r, id)
	var list []impl.Told
	if gone := r.Sent - r.Cap - s.Cursor; gone > 0 {
		list = append(list, impl.Told{Kind: 2, N: gone})
	}
	for i, m := range r.Items {
		if number := r.Sent - len(r.Items) + i; number >= s.Cursor && lets(s.Filter, m) {
			list = append(list, impl.Told{Kind: 1, Msg: m, Index: number})
		}
	}
	return list
}

// pullBy is asked of one in neither list of a right ring.
func pullBy(r *impl.Ring, id int, n int) ([]impl.Told, int) {
	list, s := tellings(*r, id), &r.Subs[subPlace(*r, id)]
	end, code := r.Sent, impl.Waits
	if r.Closed {
		code = impl.Over
	}
	if n <= len(list) {
		list, code, end = list[:n], impl.Done, s.Cursor
	}
	for _, x := range list {
		switch {
		case x.Kind == 2:
			s.Lost += x.N
			end = max(end, s.Cursor+x.N)
		default:
			s.Got++
			end = max(end, x.Index+1)
		}
	}
	// What is neither got nor lost on the way is passed by.
	s.Cursor, s.Passed = end, end-s.Start-s.Got-s.Lost
	trim(r)
	return list, code
}

// skipBy is asked of one in neither list of a right ring, with a number from its Cursor up to Sent.
func skipBy(r *impl.Ring, id int, number int) {
	s := &r.Subs[subPlace(*r, id)]
	switch edge := r.Sent - r.Cap; {
	case number <= edge:
		s.Lost += number - s.Cursor
	case s.Cursor >= edge:
		s.Passed += number - s.Cursor
	default:
		s.Lost += edge - s.Cursor
		s.Passed += number - edge
	}
	s.Cursor = number
	trim(r)
}

// readerRefusal is why an Id can't read; Done when it can.
func readerRefusal(r impl.Ring, id int) int {
	switch {
	case !ringIsRight(r):
		return impl.Bad
	case subPlace(r, id) < 0:
		return impl.None
	case slices.Contains(r.Line, id), slices.Contains(r.Grants, id):
		return impl.There
	}
	return impl.Done
}

func (g ringGiven) checkPull(t *testing.T, r impl.Ring, id int, n int) {
	t.Helper()
	want := ringAnswer{r: cloneRing(r), code: readerRefusal(r, id)}
	if n < 0 || n > 50 {
		want.code = impl.Bad
	}
	if want.code == impl.Done {
		want.tells, want.code = pullBy(&want.r, id, n)
	}
	var got ringAnswer
	got.r, got.tells, got.code = impl.Pull(g.r, id, n)
	checkRingAnswer(t, fmt.Sprint("Pull by ", id, " up to ", n), g, nil, got, want)
}

func (g ringGiven) checkSkipTo(t *testing.T, r impl.Ring, id int, number int) {
	t.Helper()
	want := ringAnswer{r: cloneRing(r), code: readerRefusal(r, id)}
	if want.code == impl.Done {
		if cursor := subOf(r, id).Cursor; number < cursor || number > r.Sent {
			want.code = impl.Over
		} else {
			skipBy(&want.r, id, number)
		}
	}
	var got ringAnswer
	got.r, got.code = impl.SkipTo(g.r, id, number)
	checkRingAnswer(t, fmt.Sprint("SkipTo by ", id, " to ", number), g, nil, got, want)
}

// checkPeek peeks twice: what is peeked is not gone then.
func (g ringGiven) checkPeek(t *testing.T, r impl.Ring, id int) {
	t.Helper()
	var want impl.Told
	code := readerRefusal(r, id)
	if code == impl.Done {
		d := cloneRing(r)
		list, last := pullBy(&d, id, 1)
		code = last
		if len(list) > 0 {
			want = list[0]
		}
	}
	for range 2 {
		if x, got := impl.Peek(g.r, id); x != want || got != code {
			t.Fatalf("Peek by %d of %s\n= %+v, %d\nwant %+v, %d", id, brief(r), x, got, want, code)
		}
	}
	g.checkKept(t, "Peek", nil)
}

func (g ringGiven) checkLag(t *testing.T, r impl.Ring, id int) {
	t.Helper()
	behind, gone, ok := 0, 0, false
	if ringIsRight(r) && subPlace(r, id) >= 0 {
		behind, ok = r.Sent-subOf(r, id).Cursor, true
		if behind > r.Cap {
			gone = behind - r.Cap
		}
	}
	if a, b, c := impl.Lag(g.r, id); a != behind || b != gone || c != ok {
		t.Fatalf("Lag by %d of %s\n= %d, %d, %v\nwant %d, %d, %v", id, brief(r), a, b, c, behind, gone, ok)
	}
	g.checkKept(t, "Lag", nil)
}

func (g ringGiven) checkBalance(t *testing.T, r impl.Ring) {
	t.Helper()
	var want [3]int
	if ringIsRight(r) {
		for _, s := range r.Subs {
			want[0], want[1], want[2] = want[0]+s.Got, want[1]+s.Lost, want[2]+s.Passed
		}
	}
	var got [3]int
	if got[0], got[1], got[2] = impl.Balance(g.r); got != want {
		t.Fatalf("Balance of %s = %v, want %v", brief(r), got, want)
	}
	g.checkKept(t, "Balance", nil)
}

// checkReader asks every function of readers at r. What was handed in is the same for all of them, as none may change it.
func checkReader(t *testing.T, r impl.Ring, ids []int) {
	t.Helper()
	g := giveRing(r, nil)
	g.checkBalance(t, r)
	for _, id := range ids {
		g.checkPeek(t, r, id)
		g.checkLag(t, r, id)
		for _, n := range pullsAround(r, id) {
			g.checkPull(t, r, id, n)
		}
		for _, n := range skipsAround(r, id) {
			g.checkSkipTo(t, r, id, n)
		}
	}
}

func eachOnce(list []int) []int {
	slices.Sort(list)
	return slices.Compact(list)
}

// pullsAround are few where the Id can't read.
func pullsAround(r impl.Ring, id int) []int {
	if readerRefusal(r, id) != impl.Done {
		return []int{math.MinInt, 0, 50, 51}
	}
	n := len(tellings(r, id))
	return eachOnce([]int{math.MinInt, -1, 0, 1, n - 1, n, n + 1, 50, 51, math.MaxInt})
}

// skipsAround are few where the Id can't read.
func skipsAround(r impl.Ring, id int) []int {
	if readerRefusal(r, id) != impl.Done {
		return []int{math.MinInt, r.Sent, math.MaxInt}
	}
	list := []int{math.MinInt, math.MaxInt, 0}
	for _, n := range []int{subOf(r, id).Cursor, r.Sent - r.Cap, r.Sent} {
		list = append(list, n-1, n, n+1)
	}
	return eachOnce(list)
}

func TestReadersAtTheirEdges(t *testing.T) {
	for _, r := range rightRings() {
		checkReader(t, r, idsAround(r))
	}
}

// TestReadersOfWrongRings has its answers written out: the ring handed back, beside it nothing, and Bad.
func TestReadersOfWrongRings(t *testing.T) {
	for _, r := range wrongRings() {
		for _, id := range []int{0, 1, 4} {
			for i, a := range readerAnswers(r, id, 3) {
				if !sameAnswer(a, ringAnswer{r: r, code: impl.Bad}) {
					t.Fatal("answer", i, id, brief(r), brief(a))
				}
			}
			if x, code := impl.Peek(r, id); x != (impl.Told{}) || code != impl.Bad {
				t.Fatal("peek", id, brief(r), x, code)
			}
			if behind, gone, ok := impl.Lag(r, id); behind != 0 || gone != 0 || ok {
				t.Fatal("lag", id, brief(r), behind, gone, ok)
			}
		}
		if got, gone, passed := impl.Balance(r); got != 0 || gone != 0 || passed != 0 {
			t.Fatal("balance", brief(r), got, gone, passed)
		}
	}
}

func readerAnswers(r impl.Ring, id int, n int) []ringAnswer {
	var pulls, none, skips, all ringAnswer
	pulls.r, pulls.tells, pulls.code = impl.Pull(r, id, n)
	none.r, none.tells, none.code = impl.Pull(r, id, 0)
	skips.r, skips.code = impl.SkipTo(r, id, n)
	all.r, all.code = impl.SkipTo(r, id, r.Sent)
	return []ringAnswer{pulls, none, skips, all}
}

// TestReadersOfWrongRingsAndTheRest has them with Ids and numbers that are right and wrong.
func TestReadersOfWrongRingsAndTheRest(t *testing.T) {
	for _, r := range wrongRings() {
		ids := []int{0, 60}
		if len(r.Items)+len(r.Subs)+len(r.Line)+len(r.Grants) > 1000 {
			ids = ids[:1]
		}
		checkReader(t, r, ids)
	}
}

// TestReadersOfEveryFewAtARing goes through all of up to two in Line and up to two in Grants, of Ids that there are and that there are not.
func TestReadersOfEveryFewAtARing(t *testing.T) {
	ids := []int{-1, 0, 1, 2, 5, 6}
	base := ringOf(2, 7, reads(0, 0, 7, bare(2)), reads(1, 3, 4), reads(2, 0, 6), reads(5, 7, 7))
	eachList(ids, 2, func(line []int) {
		eachList(ids, 2, func(grants []int) {
			checkReader(t, waitedFor(base, line, grants), ids)
			checkReader(t, closedRing(waitedFor(base, line, grants)), ids)
		})
	})
}

// TestEachRoomAndEachSkip has each Cap, one Sub at each number from far below Sent - Cap up to Sent, the array's turn at each place, and each number of tellings and each number to skip to.
func TestEachRoomAndEachSkip(t *testing.T) {
	filters := [][]impl.Term{nil, allOf(bare(2)), allOf(starts("aaa")), allOf(bare(1), bare(8))}
	for room := 1; room <= 16; room++ {
		for sent := range 37 {
			for cursor := max(sent-room-3, 0); cursor <= sent; cursor++ {
				f := filters[(room+sent+cursor)%4]
				r := ringOf(room, sent, reads(0, cursor/2, cursor, f...), reads(9, 0, sent))
				if (sent+cursor)%3 == 0 {
					r = closedRing(r)
				}
				for n := 0; n <= room+2; n++ {
					want := ringAnswer{r: cloneRing(r)}
					want.tells, want.code = pullBy(&want.r, 0, n)
					var got ringAnswer
					if got.r, got.tells, got.code = impl.Pull(r, 0, n); !sameAnswer(got, want) {
						t.Fatalf("Pull up to %d of %+v\n= %+v\nwant %+v", n, r, got, want)
					}
				}
				for number := cursor; number <= sent; number++ {
					want := ringAnswer{r: cloneRing(r)}
					skipBy(&want.r, 0, number)
					var got ringAnswer
					if got.r, got.code = impl.SkipTo(r, 0, number); !sameAnswer(got, want) {
						t.Fatalf("SkipTo %d of %+v\n= %+v\nwant %+v", number, r, got, want)
					}
				}
			}
		}
	}
}

// TestReadersOfListsOfOneArray hands in lists that lie side by side and Subs that have one Filter in common: no two lists of an answer may share memory, nor one of them with what was handed in.
func TestReadersOfListsOfOneArray(t *testing.T) {
	ids := []int{1, 4, 0, 5, 9, 9, 9}
	terms := allOf(bare(2), bare(1), bare(9), bare(3), fillTerm)
	msgs := append(sentFrom(4, 9), fillMsg, fillMsg)
	subs := []impl.Sub{reads(0, 2, 6), reads(1, 0, 9), reads(4, 9, 9), reads(5, 1, 6), reads(6, 3, 5), reads(7, 3, 7), fillSub, fillSub}
	for i := range subs[:6] {
		subs[i].Filter = terms[:3]
	}
	subs[3].Filter = terms[3:4]
	r := impl.Ring{Cap: 3, Sent: 9, Items: msgs[2:5], Next: 8, Subs: subs[:6], Line: ids[:2], Grants: ids[2:4]}
	kept := wholeRing(r)
	keptIds, keptTerms, keptMsgs := slices.Clone(ids), slices.Clone(terms), slices.Clone(msgs)
	for _, given := range []impl.Ring{r, waitedFor(r, ids[:1], ids[1:2]), closedRing(waitedFor(r, nil, ids[2:4]))} {
		for _, id := range []int{0, 1, 4, 5, 6, 7, 8} {
			for _, n := range []int{-1, 1, 2, 7, 8, 50} {
				for i, a := range readerAnswers(given, id, n) {
					if want := readerAnswers(cloneRing(given), id, n)[i]; !sameAnswer(a, want) {
						t.Fatal("answer", i, id, n, a, want)
					}
					if !lieApart(placesOf(a.r, nil)) {
						t.Fatal("two lists of the answer share memory", i, id, n)
					}
					if !sameRing(wholeRing(r), kept) || !slices.Equal(ids, keptIds) || !slices.Equal(terms, keptTerms) || !slices.Equal(msgs, keptMsgs) {
						t.Fatal("what was handed in has changed", i, id, n)
					}
				}
			}
		}
	}
}

// TestReadersKeepNothing spoils what is answered and asks once more.
func TestReadersKeepNothing(t *testing.T) {
	for i, r := range append(rightRings(), faultBases()...) {
		if i%5 != 0 {
			continue
		}
		for _, id := range idsAround(r) {
			var kept []ringAnswer
			for _, a := range readerAnswers(r, id, 4) {
				b := a
				b.r, b.tells = cloneRing(a.r), slices.Clone(a.tells)
				kept = append(kept, b)
				for _, p := range placesOf(a.r, nil) {
					*p += 1000003
				}
				spoilWith(a.tells, func(x impl.Told) impl.Told { return impl.Told{Kind: x.Kind + 5, N: x.N + 1, Index: x.Index + 1} })
			}
			for j, a := range readerAnswers(r, id, 4) {
				if !sameAnswer(a, kept[j]) {
					t.Fatal("another one the second time", r, id, j, a)
				}
			}
		}
	}
}
