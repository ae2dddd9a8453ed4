package tests

import (
	"math/rand"
	"strings"
	"testing"

	"loop.example/g00098/impl"
)

// TestPassesByHand has its answers written out, so that it leans on no second way to work them out.
func TestPassesByHand(t *testing.T) {
	full := strings.Repeat("m", 40)
	for _, x := range []struct {
		f      string
		passes []impl.Msg
		not    []impl.Msg
	}{
		{"", []impl.Msg{num(0), num(-999999999), num(999999999), text(""), text("a"), text(full)}, nil},
		{"all", []impl.Msg{num(0), num(-999999999), num(999999999), text(""), text("a"), text(full)}, nil},
		{"num", []impl.Msg{num(0), num(-1), num(999999999)}, []impl.Msg{text(""), text("0"), text("num")}},
		{"text", []impl.Msg{text(""), text("0"), text("num")}, []impl.Msg{num(0), num(-1), num(999999999)}},
		{"<5", []impl.Msg{num(4), num(0), num(-5), num(-999999999)}, []impl.Msg{num(5), num(6), num(999999999), text("4"), text("")}},
		{"<0", []impl.Msg{num(-1)}, []impl.Msg{num(0), num(1), text("")}},
		{"<-5", []impl.Msg{num(-6), num(-999999999)}, []impl.Msg{num(-5), num(-4), num(0), num(5)}},
		{"<999999999", []impl.Msg{num(999999998), num(-999999999)}, []impl.Msg{num(999999999), text("")}},
		{"<-999999999", nil, []impl.Msg{num(-999999999), num(-999999998), num(0), text("")}},
		{"%3", []impl.Msg{num(0), num(3), num(-3), num(6), num(-9), num(999999999), num(-999999999)}, []impl.Msg{num(1), num(2), num(4), num(-1), num(-2), num(-4), text("3"), text("")}},
		{"%1", []impl.Msg{num(0), num(1), num(-1), num(999999999), num(-999999999)}, []impl.Msg{text(""), text("1")}},
		{"%2", []impl.Msg{num(0), num(2), num(-2), num(-999999998)}, []impl.Msg{num(1), num(-1), num(3), num(-3), num(999999999)}},
		{"%999999999", []impl.Msg{num(0), num(999999999), num(-999999999)}, []impl.Msg{num(1), num(-1), num(999999998), num(333333333), text("")}},
		{"^ab", []impl.Msg{text("ab"), text("abc"), text("abab"), text("ab "), text("ab" + full[2:])}, []impl.Msg{text(""), text("a"), text("b"), text("ba"), text("cab"), text("aab"), text(" ab"), text("Ab"), text("AB"), num(0)}},
		{"~ab", []impl.Msg{text("ab"), text("abc"), text("cab"), text("aab"), text("xaby"), text(" ab"), text(full[2:] + "ab")}, []impl.Msg{text(""), text("a"), text("b"), text("ba"), text("a b"), text("axb"), text("AB"), text("aAB"), num(0)}},
		{"~aab", []impl.Msg{text("aaab"), text("aab"), text("aaaaab"), text("abaab")}, []impl.Msg{text("ab"), text("aa"), text("abab"), text("aba")}},
		{"^mmmmmmmmmm", []impl.Msg{text(full), text(full[:10])}, []impl.Msg{text(full[:9]), text("n" + full[1:]), text(full[:9] + "n")}},
		{"~mmmmmmmmmm", []impl.Msg{text(full), text(full[:10]), text("n" + full[:10])}, []impl.Msg{text(full[:9]), text(full[:9] + "n" + full[:9])}},
		{"all !", nil, []impl.Msg{num(0), num(5), text(""), text("a")}},
		{"num !", []impl.Msg{text(""), text("a")}, []impl.Msg{num(0), num(5)}},
		{"<5 !", []impl.Msg{num(5), num(6), text(""), text("4")}, []impl.Msg{num(4)}},
		{"^a !", []impl.Msg{num(0), text(""), text("b")}, []impl.Msg{text("a")}},
		{"num ! !", []impl.Msg{num(0)}, []impl.Msg{text("")}},
		{"num %2 &", []impl.Msg{num(0), num(4)}, []impl.Msg{num(3), text("4")}},
		{"num text &", nil, []impl.Msg{num(0), text("")}},
		{"num text |", []impl.Msg{num(0), text("")}, nil},
		{"%2 %3 &", []impl.Msg{num(0), num(6), num(-6)}, []impl.Msg{num(2), num(3), num(1)}},
		{"%2 %3 |", []impl.Msg{num(0), num(6), num(2), num(3), num(-3)}, []impl.Msg{num(1), num(5), text("")}},
		{"text <3 |", []impl.Msg{num(2), text("z")}, []impl.Msg{num(3)}},
		{"<3 text |", []impl.Msg{num(2), text("z")}, []impl.Msg{num(3)}},
		{"<3 ! <7 &", []impl.Msg{num(3), num(6)}, []impl.Msg{num(2), num(7), text("")}},
		{"<3 <7 ! |", []impl.Msg{num(2), num(7), text("")}, []impl.Msg{num(3), num(6)}},
		{"<3 <7 & !", []impl.Msg{num(3), num(6), num(7), text("")}, []impl.Msg{num(2)}},
		{"<3 <7 | !", []impl.Msg{num(7), text("")}, []impl.Msg{num(2), num(3), num(6)}},
		{"^a ~b & <0 |", []impl.Msg{text("ab"), text("acb"), num(-1)}, []impl.Msg{text("a"), text("b"), text("ba"), num(0)}},
		{"^a ~b <0 | &", []impl.Msg{text("ab")}, []impl.Msg{text("a"), num(-1), text("b")}},
		{"^a ~b <0 & |", []impl.Msg{text("ab"), text("a")}, []impl.Msg{num(-1), text("b"), num(0)}},
		{"all ! ! ! ! ! ! ! ! ! ! !", nil, []impl.Msg{num(0), text("")}},
		{"%2 %3 %5 %7 %11 %13 & & & & &", []impl.Msg{num(0), num(30030), num(-60060)}, []impl.Msg{num(15015), num(10010), num(2310), num(4290), num(1)}},
		{"%2 %3 | %5 | %7 | %11 | %13 |", []impl.Msg{num(0), num(2), num(3), num(5), num(7), num(11), num(13), num(26)}, []impl.Msg{num(1), num(17), text("2")}},
	} {
		f := mustTerms(t, x.f)
		for _, m := range x.passes {
			if !impl.Passes(f, m) {
				t.Errorf("%q: %+v does not pass", x.f, m)
			}
		}
		for _, m := range x.not {
			if impl.Passes(f, m) {
				t.Errorf("%q: %+v passes", x.f, m)
			}
		}
	}
}

// TestNoWrongMessagePasses has filters that let all pass, nothing, and some, with their others.
func TestNoWrongMessagePasses(t *testing.T) {
	filters := append(longFilters(), nil, allOf())
	for _, s := range []string{"all", "all !", "num", "num !", "text", "text !", "num text |", "<5", "<5 !", "%1", "%1 !", "^a", "^a !", "~a", "~a !", "all all &"} {
		filters = append(filters, mustTerms(t, s))
	}
	for _, f := range filters {
		for _, m := range wrongMsgs() {
			if impl.Passes(f, m) {
				t.Fatalf("%+v lets %#v pass", f, m)
			}
		}
	}
}

// TestEachNumberAtBelowAndEach has numbers around each Num, and around 0.
func TestEachNumberAtBelowAndEach(t *testing.T) {
	for _, n := range []int{-impl.MaxNum, -impl.MaxNum + 1, -12, -1, 0, 1, 2, 3, 7, 12, 500000000, impl.MaxNum - 1, impl.MaxNum} {
		var msgs []impl.Msg
		for d := -30; d <= 30; d++ {
			for _, m := range []impl.Msg{num(d), num(n + d), num(-n + d)} {
				if impl.MsgOk(m) {
					msgs = append(msgs, m)
				}
			}
		}
		for _, m := range msgs {
			if impl.Passes(allOf(below(n)), m) != (m.Num < n) {
				t.Fatal("below", n, m)
			}
			if n > 0 && impl.Passes(allOf(dividedBy(n)), m) != (m.Num%n == 0) {
				t.Fatal("each", n, m)
			}
		}
	}
}

// TestEveryShortTextAtStartsAndHolds has all texts of a few letters, with all that is asked for of a few.
func TestEveryShortTextAtStartsAndHolds(t *testing.T) {
	letters := []string{"a", "b", "B", " "}
	eachText(letters[:2], 3, func(part string) {
		if part == "" {
			return
		}
		eachText(letters, 5, func(s string) {
			there := false
			for i := range len(s) {
				there = there || strings.HasPrefix(s[i:], part)
			}
			if impl.Passes(allOf(starts(part)), text(s)) != strings.HasPrefix(s, part) || impl.Passes(allOf(holds(part)), text(s)) != there {
				t.Fatalf("%q at %q", part, s)
			}
		})
	})
}

// checkLetsOthers holds Other, and Other of Other, against what f lets pass.
func checkLetsOthers(t *testing.T, f []impl.Term, msgs []impl.Msg) {
	t.Helper()
	other, ok := impl.Other(f)
	again, twice := impl.Other(other)
	if ok != (len(f) < impl.MaxTerms) || ok && !impl.FilterOk(other) || ok && twice != (len(other) < impl.MaxTerms) || twice && !impl.FilterOk(again) {
		t.Fatalf("Other of %+v: %+v, %v; of that: %+v, %v", f, other, ok, again, twice)
	}
	for _, m := range msgs {
		passes := impl.Passes(f, m)
		if ok && impl.Passes(other, m) != (impl.MsgOk(m) && !passes) {
			t.Fatalf("%+v and Other let %+v pass: %v", f, m, passes)
		}
		if ok && twice && impl.Passes(again, m) != passes {
			t.Fatalf("Other of Other of %+v lets %+v pass: %v", f, m, !passes)
		}
	}
}

// checkLetsBoth holds Both against what each lets pass, whichever stands first.
func checkLetsBoth(t *testing.T, f []impl.Term, g []impl.Term, msgs []impl.Msg) {
	t.Helper()
	both, ok := impl.Both(f, g)
	turned, okTurned := impl.Both(g, f)
	fits := len(f) == 0 || len(g) == 0 || len(f)+len(g)+1 <= impl.MaxTerms
	if ok != fits || okTurned != fits || ok && (!impl.FilterOk(both) || !impl.FilterOk(turned)) {
		t.Fatalf("Both of %+v and %+v: %+v, %v; turned: %+v, %v", f, g, both, ok, turned, okTurned)
	}
	if !ok {
		return
	}
	for _, m := range msgs {
		want := impl.Passes(f, m) && impl.Passes(g, m)
		if impl.Passes(both, m) != want || impl.Passes(turned, m) != want {
			t.Fatalf("Both of %+v and %+v at %+v: want %v", f, g, m, want)
		}
	}
}

// rightFilters are all right filters of at most n of these terms.
func rightFilters(terms []impl.Term, n int) [][]impl.Term {
	var list [][]impl.Term
	eachList(terms, n, func(f []impl.Term) {
		if filterIsRight(f) {
			list = append(list, f)
		}
	})
	return list
}

// TestBothAndOtherOfEveryShape has all right filters of a few terms, the one without terms among them, and each with each.
func TestBothAndOtherOfEveryShape(t *testing.T) {
	msgs := append(edgeMsgs(), wrongMsgs()[:20]...)
	few := rightFilters(append(leaves(), takers()...), 3)
	if len(few) != 1+7+7+7+98 {
		t.Fatal("how many are right", len(few))
	}
	for _, f := range rightFilters(append(leaves(), takers()...), 4) {
		checkLetsOthers(t, f, msgs)
	}
	near := []impl.Msg{num(-2), num(0), num(1), num(2), num(3), num(4), text(""), text("a"), text("b"), text("ab"), text("ba"), {}}
	for i, f := range few {
		for _, g := range few[i:] {
			checkLetsBoth(t, f, g, near)
		}
	}
}

// TestBothAndOtherWithoutTerms has its answers written out.
func TestBothAndOtherWithoutTerms(t *testing.T) {
	for _, none := range [][]impl.Term{nil, {}} {
		other, ok := impl.Other(none)
		again, twice := impl.Other(other)
		both, okBoth := impl.Both(none, nil)
		for _, m := range append(edgeMsgs(), rightMsgs()...) {
			if !ok || impl.Passes(other, m) {
				t.Error("other", m)
			}
			if !twice || !okBoth || !impl.Passes(none, m) || !impl.Passes(again, m) || !impl.Passes(both, m) {
				t.Error("none, other of other, both", m)
			}
		}
		for _, m := range wrongMsgs() {
			if impl.Passes(none, m) || impl.Passes(other, m) || impl.Passes(again, m) || impl.Passes(both, m) {
				t.Errorf("a wrong one passes: %#v", m)
			}
		}
		checkLetsOthers(t, none, append(edgeMsgs(), wrongMsgs()...))
		for _, f := range longFilters() {
			if impl.FilterOk(f) {
				checkLetsBoth(t, none, f, append(edgeMsgs(), wrongMsgs()...))
			}
		}
	}
}

// TestBothAndOtherOfLongFilters has filters of each number of terms, and of many shapes, up to where Both and Other refuse.
func TestBothAndOtherOfLongFilters(t *testing.T) {
	r := rand.New(rand.NewSource(88))
	msgs := append(edgeMsgs(), wrongMsgs()[:20]...)
	for range 30 {
		for n := range impl.MaxTerms + 1 {
			f := someFilter(r, n)
			checkPasses(t, f, msgs)
			checkLetsOthers(t, f, msgs)
			for k := range impl.MaxTerms + 1 {
				g := someFilter(r, k)
				checkBoth(t, f, g)
				checkLetsBoth(t, f, g, msgs)
			}
		}
	}
}

// TestOtherOfBoth follows from both together: what does not pass the one or does not pass the other.
func TestOtherOfBoth(t *testing.T) {
	few := rightFilters(append(leaves()[1:], bare(8)), 2)
	for _, f := range few {
		for _, g := range few {
			both, _ := impl.Both(f, g)
			other, ok := impl.Other(both)
			notF, _ := impl.Other(f)
			notG, _ := impl.Other(g)
			for _, m := range edgeMsgs() {
				if !ok || impl.Passes(other, m) != (impl.Passes(notF, m) || impl.Passes(notG, m)) {
					t.Fatal("other of both", f, g, m)
				}
			}
		}
	}
}
