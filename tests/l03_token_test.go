package tests

import (
	"math"
	"math/rand/v2"
	"slices"
	"testing"

	"loop.example/g00098/impl"
)

// tokens is one token for each parent, of which those numbers are off.
func tokens(parents []int, off ...int) impl.Tokens {
	x := impl.Tokens{Parents: parents, Off: make([]bool, len(parents))}
	for _, i := range off {
		x.Off[i] = true
	}
	return x
}

func cloneTokens(x impl.Tokens) impl.Tokens {
	return impl.Tokens{Parents: slices.Clone(x.Parents), Off: slices.Clone(x.Off)}
}

func sameTokens(a impl.Tokens, b impl.Tokens) bool {
	return slices.Equal(a.Parents, b.Parents) && slices.Equal(a.Off, b.Off)
}

// chain has each token beneath the one ahead of it, star all beneath the first one, apart none beneath another.
func chain(n int) []int { return upTo(-1, n) }

func star(n int) []int {
	list := make([]int, n)
	if n > 0 {
		list[0] = -1
	}
	return list
}

func apart(n int) []int { return slices.Repeat([]int{-1}, n) }

// halves has two beneath each one.
func halves(n int) []int {
	list := make([]int, n)
	for i := range list {
		list[i] = (i+1)/2 - 1
	}
	return list
}

func rightTokens() []impl.Tokens {
	list := []impl.Tokens{
		{}, {Parents: []int{}, Off: []bool{}}, {Off: []bool{}},
		tokens([]int{-1, 0, 0, 1, -1}), tokens([]int{-1, 0, 0, 1, -1}, 1, 3), tokens([]int{-1, 0, 0, 1, -1}, 4),
		tokens([]int{-1, -1, 0, 1, 0, 1, 2, 3, 4, 5}, 2, 6),
		tokens([]int{-1, 0, 1, -1, 3, 4, 0, 1, 2, 3}, 2, 8, 5),
	}
	for n := 1; n <= impl.MaxTokens; n++ {
		for _, parents := range [][]int{chain(n), star(n), apart(n), halves(n)} {
			list = append(list, tokens(parents), tokens(parents, upTo(0, n)...), tokens(parents, n-1))
		}
	}
	return list
}

// wrongTokens are not TokensOk, each for a reason of its own, some for several.
func wrongTokens() []impl.Tokens {
	over := impl.MaxTokens + 1
	list := []impl.Tokens{
		{Parents: []int{-1}}, {Off: []bool{false}}, {Off: []bool{true}},
		{Parents: []int{-1, 0}, Off: []bool{false}}, {Parents: []int{-1}, Off: []bool{false, false}},
		{Parents: []int{-1}, Off: []bool{true, false, true}}, {Parents: []int{9, 9, 9}, Off: []bool{true, false}},
		{Parents: apart(impl.MaxTokens), Off: make([]bool, over)}, {Parents: apart(over), Off: make([]bool, impl.MaxTokens)},
		{Parents: apart(1000)}, {Off: make([]bool, 1000)}, {Parents: apart(999), Off: make([]bool, 1000)},
		tokens(apart(over)), tokens(chain(over)), tokens(star(over)), tokens(chain(over), upTo(0, over)...), tokens(apart(1000)), tokens(make([]int, 1000)),
		tokens([]int{-1, 0}, 0), tokens([]int{-1, 0, 0}, 0, 1), tokens([]int{-1, 0, 0}, 0, 2), tokens([]int{-1, 0, 1}, 0, 1), tokens([]int{-1, 0, 1}, 1), tokens([]int{-1, 0, 1}, 0, 2),
		tokens(chain(impl.MaxTokens), 22), tokens(chain(impl.MaxTokens), upTo(0, 23)...), tokens(star(impl.MaxTokens), upTo(0, 23)...),
		tokens(append(apart(23), 23)), tokens(append(apart(23), 24)), tokens(append(apart(23), -2)),
		tokens([]int{-1, 1}, 0), tokens([]int{-1, 5}, 0, 1), tokens([]int{0, 0}, 0),
	}
	for _, p := range []int{-2, -3, 0, 1, 2, 24, 256, 1 << 32, -1 << 32, math.MinInt, math.MaxInt} {
		list = append(list, tokens([]int{p}), tokens([]int{p}, 0))
	}
	for _, p := range []int{-2, 2, 3, 4, math.MinInt, math.MaxInt} {
		list = append(list, tokens([]int{-1, 0, p}), tokens([]int{-1, 0, p, 1}), tokens([]int{-1, 0, p}, 0, 1, 2))
	}
	return list
}

// oddTokens are the numbers at the edges of n tokens, and some far away.
func oddTokens(n int) []int {
	list := []int{math.MinInt, -1 << 32, -impl.MaxTokens, -3, -2, -1, 0, 1, 2, n / 2, n - 2, n - 1, n, n + 1, impl.MaxTokens - 1, impl.MaxTokens, impl.MaxTokens + 1, 256, 1 << 32, math.MaxInt}
	slices.Sort(list)
	return slices.Compact(list)
}

func tokensAreRight(x impl.Tokens) bool {
	if len(x.Parents) != len(x.Off) || len(x.Off) > 24 {
		return false
	}
	for i, p := range x.Parents {
		if p < -1 || p >= i || p >= 0 && x.Off[p] && !x.Off[i] {
			return false
		}
	}
	return true
}

// standsUnder climbs from one token up to see whether it comes to top.
func standsUnder(parents []int, one int, top int) bool {
	for one >= 0 {
		if one == top {
			return true
		}
		one = parents[one]
	}
	return false
}

func isToken(x impl.Tokens, token int) bool { return 0 <= token && token < len(x.Parents) }

// checkTokens asks every function of the chapter at x, with each of numbers, once for each filling of the spare room: a bool that is written there is seen by one of both.
func checkTokens(t *testing.T, x impl.Tokens, numbers []int) {
	t.Helper()
	for _, fill := range []bool{false, true} {
		g := tokenGiven{x: x, fill: fill}
		g.checkOk(t)
		for _, n := range numbers {
			g.checkNew(t, n)
			g.checkCancel(t, n)
			g.checkIsOff(t, n)
			g.checkUnder(t, n)
		}
	}
}

// tokenGiven is what is handed in, and how the room behind it is filled.
type tokenGiven struct {
	x    impl.Tokens
	fill bool
}

func (g tokenGiven) roomy() impl.Tokens {
	return impl.Tokens{Parents: roomy(g.x.Parents), Off: roomyWith(g.x.Off, g.fill)}
}

// checkApart looks at the argument, at the Tokens that were answered, and at the list beside them.
func (g tokenGiven) checkApart(t *testing.T, what string, given impl.Tokens, answer impl.Tokens, list []int) {
	t.Helper()
	checkApart(t, what, given.Parents, g.x.Parents, answer.Parents, list)
	checkApartWith(t, what, given.Off, g.x.Off, g.fill, func(b bool) bool { return !b }, answer.Off)
}

func (g tokenGiven) checkOk(t *testing.T) {
	t.Helper()
	given := g.roomy()
	if ok := impl.TokensOk(given); ok != tokensAreRight(g.x) {
		t.Errorf("TokensOk(%v) = %v", g.x, ok)
	}
	g.checkApart(t, "TokensOk", given, impl.Tokens{}, nil)
}

func (g tokenGiven) checkNew(t *testing.T, parent int) {
	t.Helper()
	want, number, code := cloneTokens(g.x), -1, impl.Done
	switch {
	case !tokensAreRight(g.x), parent != -1 && !isToken(g.x, parent):
		code = impl.Bad
	case len(g.x.Parents) == 24:
		code = impl.Full
	default:
		number = len(g.x.Parents)
		want.Parents = append(want.Parents, parent)
		want.Off = append(want.Off, parent >= 0 && g.x.Off[parent])
	}
	given := g.roomy()
	y, n, c := impl.NewToken(given, parent)
	if !sameTokens(y, want) || n != number || c != code {
		t.Errorf("NewToken(%v, %d) = %v, %d, %d; want %v, %d, %d", g.x, parent, y, n, c, want, number, code)
	}
	g.checkApart(t, "NewToken", given, y, nil)
}

func (g tokenGiven) checkCancel(t *testing.T, token int) {
	t.Helper()
	want, gone, code := cloneTokens(g.x), []int(nil), impl.Done
	switch {
	case !tokensAreRight(g.x):
		code = impl.Bad
	case !isToken(g.x, token):
		code = impl.None
	default:
		for i := range g.x.Parents {
			if standsUnder(g.x.Parents, i, token) && !g.x.Off[i] {
				want.Off[i] = true
				gone = append(gone, i)
			}
		}
	}
	given := g.roomy()
	y, list, c := impl.Cancel(given, token)
	if !sameTokens(y, want) || !slices.Equal(list, gone) || c != code {
		t.Errorf("Cancel(%v, %d) = %v, %v, %d; want %v, %v, %d", g.x, token, y, list, c, want, gone, code)
	}
	g.checkApart(t, "Cancel", given, y, list)
}

func (g tokenGiven) checkIsOff(t *testing.T, token int) {
	t.Helper()
	given := g.roomy()
	want := tokensAreRight(g.x) && isToken(g.x, token) && g.x.Off[token]
	if off := impl.IsOff(given, token); off != want {
		t.Errorf("IsOff(%v, %d) = %v", g.x, token, off)
	}
	g.checkApart(t, "IsOff", given, impl.Tokens{}, nil)
}

func (g tokenGiven) checkUnder(t *testing.T, token int) {
	t.Helper()
	var want []int
	if tokensAreRight(g.x) && isToken(g.x, token) {
		for i := range g.x.Parents {
			if standsUnder(g.x.Parents, i, token) {
				want = append(want, i)
			}
		}
	}
	given := g.roomy()
	list := impl.Under(given, token)
	if !slices.Equal(list, want) {
		t.Errorf("Under(%v, %d) = %v; want %v", g.x, token, list, want)
	}
	g.checkApart(t, "Under", given, impl.Tokens{}, list)
}

func TestTokenLimits(t *testing.T) {
	if impl.MaxTokens != 24 {
		t.Error("constant", impl.MaxTokens)
	}
	for _, x := range rightTokens() {
		if !impl.TokensOk(x) {
			t.Error("not right", x)
		}
	}
	for _, x := range wrongTokens() {
		if impl.TokensOk(x) {
			t.Error("right", x)
		}
	}
}

func TestTokensAtTheirEdges(t *testing.T) {
	for _, x := range append(rightTokens(), wrongTokens()...) {
		checkTokens(t, x, oddTokens(len(x.Parents)))
	}
}

// eachTokens hands over all Tokens of just n, with each of parents(i) as the parent of the number i, each off or not.
func eachTokens(n int, parents func(i int) []int, visit func(x impl.Tokens)) {
	var each func(x impl.Tokens)
	each = func(x impl.Tokens) {
		i := len(x.Parents)
		if i == n {
			visit(x)
			return
		}
		for _, p := range parents(i) {
			for _, off := range []bool{false, true} {
				each(impl.Tokens{Parents: append(slices.Clone(x.Parents), p), Off: append(slices.Clone(x.Off), off)})
			}
		}
	}
	each(impl.Tokens{})
}

// TestEveryFewTokens goes through all trees of up to five, also those in which one is not off beneath one that is.
func TestEveryFewTokens(t *testing.T) {
	for n := range 6 {
		eachTokens(n, func(i int) []int { return upTo(-1, i+1) }, func(x impl.Tokens) {
			checkTokens(t, x, upTo(-2, n+4))
		})
	}
}

// TestEveryWrongFewTokens goes through all lists of up to three, with parents that are none among them.
func TestEveryWrongFewTokens(t *testing.T) {
	for n := range 4 {
		eachTokens(n, func(int) []int { return upTo(-2, 6) }, func(x impl.Tokens) {
			checkTokens(t, x, upTo(-2, n+4))
		})
	}
}

func TestEveryFewTokensOfTwoLengths(t *testing.T) {
	for n := range 4 {
		eachTokens(n, func(i int) []int { return upTo(-1, i+1) }, func(x impl.Tokens) {
			for short := range n {
				checkTokens(t, impl.Tokens{Parents: x.Parents[:short], Off: x.Off}, upTo(-2, n+4))
				checkTokens(t, impl.Tokens{Parents: x.Parents, Off: x.Off[:short]}, upTo(-2, n+4))
			}
		})
	}
}

func TestNewTokenWhereItIsFull(t *testing.T) {
	for _, parents := range [][]int{chain(impl.MaxTokens), star(impl.MaxTokens), apart(impl.MaxTokens)} {
		full := tokens(parents)
		for _, c := range []struct{ parent, code int }{{-1, impl.Full}, {0, impl.Full}, {11, impl.Full}, {23, impl.Full}, {24, impl.Bad}, {25, impl.Bad}, {-2, impl.Bad}, {math.MinInt, impl.Bad}, {math.MaxInt, impl.Bad}} {
			if y, n, code := impl.NewToken(full, c.parent); code != c.code || n != -1 || !sameTokens(y, full) {
				t.Error("new where it is full", c.parent, y, n, code)
			}
		}
		last := tokens(parents[:23])
		if y, n, code := impl.NewToken(last, parents[23]); code != impl.Done || n != 23 || !sameTokens(y, full) {
			t.Error("the last one that fits", y, n, code)
		}
		over := tokens(append(slices.Clone(parents), -1))
		if y, n, code := impl.NewToken(over, -1); code != impl.Bad || n != -1 || !sameTokens(y, over) {
			t.Error("new where there are too many", y, n, code)
		}
	}
}

func TestBornBeneathOneThatIsOff(t *testing.T) {
	x := tokens([]int{-1, 0, 1, -1, 0}, 1, 2)
	for parent, off := range []bool{false, true, true, false, false} {
		y, n, c := impl.NewToken(x, parent)
		if c != impl.Done || n != 5 || impl.IsOff(y, n) != off || !impl.TokensOk(y) {
			t.Error("born", parent, y, n, c)
		}
		y, n, c = impl.NewToken(y, n)
		if c != impl.Done || n != 6 || impl.IsOff(y, n) != off || !impl.TokensOk(y) {
			t.Error("born beneath that", parent, y, n, c)
		}
		if _, gone, c := impl.Cancel(y, 5); c != impl.Done || len(gone) != 0 && off || len(gone) != 2 && !off {
			t.Error("cancelled then", parent, gone, c)
		}
	}
	if y, n, c := impl.NewToken(x, -1); c != impl.Done || n != 5 || impl.IsOff(y, n) {
		t.Error("born beneath none", y, n, c)
	}
}

// TestCancelByHand has its answers written out, so that it leans on no second way to work them out.
func TestCancelByHand(t *testing.T) {
	// 0 over 1, 4; 1 over 2, 3; 3 over 7, 9; 4 over 6; 5 over 8, and beneath none.
	parents := []int{-1, 0, 1, 1, 0, -1, 4, 3, 5, 3}
	for _, c := range []struct {
		off   []int
		token int
		gone  []int
	}{
		{nil, 0, []int{0, 1, 2, 3, 4, 6, 7, 9}},
		{nil, 1, []int{1, 2, 3, 7, 9}},
		{nil, 2, []int{2}},
		{nil, 3, []int{3, 7, 9}},
		{nil, 4, []int{4, 6}},
		{nil, 5, []int{5, 8}},
		{nil, 9, []int{9}},
		{[]int{3, 7, 9}, 0, []int{0, 1, 2, 4, 6}},
		{[]int{3, 7, 9}, 7, nil},
		{[]int{3, 7, 9}, 3, nil},
		{[]int{7}, 1, []int{1, 2, 3, 9}},
		{[]int{1, 2, 3, 7, 9}, 0, []int{0, 4, 6}},
		{[]int{8}, 5, []int{5}},
	} {
		x := tokens(parents, c.off...)
		y, gone, code := impl.Cancel(x, c.token)
		want := tokens(parents, append(slices.Clone(c.off), c.gone...)...)
		if code != impl.Done || !slices.Equal(gone, c.gone) || !sameTokens(y, want) {
			t.Error("cancel", c.off, c.token, y, gone, code)
		}
		z, again, code := impl.Cancel(y, c.token)
		if code != impl.Done || len(again) != 0 || !sameTokens(z, y) {
			t.Error("cancelled again", c.off, c.token, z, again, code)
		}
	}
}

// TestTokensOverLongTimes remembers which ones were cancelled: just those are off, and what stands beneath them, born before or behind.
func TestTokensOverLongTimes(t *testing.T) {
	for seed := range uint64(150) {
		r := rand.New(rand.NewPCG(seed, 3))
		cancelled := map[int]bool{}
		var x impl.Tokens
		for range 60 {
			n := len(x.Parents)
			if n > 0 && r.IntN(6) == 0 {
				token := r.IntN(n)
				y, gone, c := impl.Cancel(x, token)
				checkWentOff(t, x, y, gone, c)
				cancelled[token] = true
				x = y
			} else {
				y, number, c := impl.NewToken(x, r.IntN(n+1)-1)
				if (c == impl.Done) != (n < impl.MaxTokens) || c == impl.Done && number != n {
					t.Fatal("new", x, y, number, c)
				}
				x = y
			}
			checkJustThoseAreOff(t, x, cancelled)
		}
	}
}

func checkWentOff(t *testing.T, x impl.Tokens, y impl.Tokens, gone []int, code int) {
	t.Helper()
	var want []int
	for i := range x.Parents {
		if !impl.IsOff(x, i) && impl.IsOff(y, i) {
			want = append(want, i)
		}
	}
	if code != impl.Done || !slices.Equal(gone, want) {
		t.Fatal("went off", x, y, gone, code)
	}
}

func checkJustThoseAreOff(t *testing.T, x impl.Tokens, cancelled map[int]bool) {
	t.Helper()
	if !impl.TokensOk(x) {
		t.Fatal("not right any more", x)
	}
	for i := range x.Parents {
		off := false
		for top := range cancelled {
			off = off || standsUnder(x.Parents, i, top)
		}
		if impl.IsOff(x, i) != off || x.Off[i] != off {
			t.Fatal("off", x, i, cancelled)
		}
	}
}

// TestTokensKeepNothing spoils what is answered and asks once more.
func TestTokensKeepNothing(t *testing.T) {
	for _, x := range append(rightTokens(), wrongTokens()...) {
		for _, n := range []int{-1, 0, 1, len(x.Parents) - 1, len(x.Parents)} {
			born, _, _ := impl.NewToken(x, n)
			off, gone, _ := impl.Cancel(x, n)
			under := impl.Under(x, n)
			kept := []impl.Tokens{cloneTokens(born), cloneTokens(off), {Parents: slices.Clone(gone)}, {Parents: slices.Clone(under)}}
			for _, list := range [][]int{born.Parents, off.Parents, gone, under} {
				spoilWith(list, func(n int) int { return n + 5 })
			}
			for _, list := range [][]bool{born.Off, off.Off} {
				spoilWith(list, func(b bool) bool { return !b })
			}
			born, _, _ = impl.NewToken(x, n)
			off, gone, _ = impl.Cancel(x, n)
			under = impl.Under(x, n)
			for i, y := range []impl.Tokens{born, off, {Parents: gone}, {Parents: under}} {
				if !sameTokens(y, kept[i]) {
					t.Error("another answer the second time", x, n, i, y, kept[i])
				}
			}
		}
	}
}
