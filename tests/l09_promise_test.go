package tests

import (
	"slices"
	"testing"

	"loop.example/g00098/impl"
)

// The tests of this file look at what follows, by rows of calls that are written out; what each answers is told by counting alone.

// sendTo ends the test where the ring does not take the message.
func sendTo(t *testing.T, r impl.Ring, m impl.Msg) (impl.Ring, []int) {
	t.Helper()
	d, told, code := impl.Send(r, m)
	if code != impl.Done || d.Sent != r.Sent+1 || !impl.RingOk(d) {
		t.Fatal("not taken", r, m, d, code)
	}
	return d, told
}

func subscribeTo(t *testing.T, r impl.Ring, f []impl.Term, back bool) (impl.Ring, int) {
	t.Helper()
	d, id, code := impl.Subscribe(r, f, back)
	if code != impl.Done || !impl.RingOk(d) {
		t.Fatal("not subscribed", r, d, id, code)
	}
	return d, id
}

// receiveAt ends the test where the reading answers another code.
func receiveAt(t *testing.T, r impl.Ring, id int, want int) (impl.Ring, impl.Told) {
	t.Helper()
	d, x, code := impl.Receive(r, id)
	if code != want || !impl.RingOk(d) {
		t.Fatal("receive", r, id, d, x, code)
	}
	return d, x
}

func subOf(r impl.Ring, id int) impl.Sub { return r.Subs[subPlace(r, id)] }

// newRing has sent some already, to nobody.
func newRing(t *testing.T, room int, sent int) impl.Ring {
	t.Helper()
	r, code := impl.NewRing(room)
	if code != impl.Done {
		t.Fatal("new", room, code)
	}
	for n := range sent {
		r, _ = sendTo(t, r, num(n))
	}
	return r
}

// TestAnOpenRingTakesEveryMessage has one Sub that never reads, one that waits and wants nothing, one that was told and does not go on, one that waits and takes what it is told, and more; none of them makes a sender wait.
func TestAnOpenRingTakesEveryMessage(t *testing.T) {
	for room := 1; room <= 16; room++ {
		r := newRing(t, room, 3)
		r, never := subscribeTo(t, r, nil, false)
		r, blind := subscribeTo(t, r, allOf(bare(1), bare(8)), false)
		r, lazy := subscribeTo(t, r, nil, false)
		r, eager := subscribeTo(t, r, allOf(bare(2)), false)
		for _, id := range []int{blind, lazy, eager} {
			r, _ = receiveAt(t, r, id, impl.Waits)
		}
		for len(r.Subs) < 12 {
			r, _ = subscribeTo(t, r, nil, true)
		}
		for i := range 60 {
			m := rightMsgs()[i%len(rightMsgs())]
			d, told := sendTo(t, r, m)
			r = d
			if slices.Contains(told, lazy) != (i == 0) || slices.Contains(told, eager) != (m.Kind == impl.MNum) || slices.Contains(told, blind) || slices.Contains(told, never) {
				t.Fatal("told", room, i, told)
			}
			if slices.Contains(told, eager) {
				d, x, code := impl.Proceed(r, eager)
				if code != impl.Done || x != (impl.Told{Kind: impl.RGot, Msg: m, Index: 3 + i}) {
					t.Fatal("proceed", room, i, x, code)
				}
				r, _ = receiveAt(t, d, eager, impl.Waits)
			}
			if len(r.Items) != min(i+1, room) || r.Items[len(r.Items)-1] != m || subOf(r, never).Cursor != 3 || subOf(r, lazy).Cursor != 3 {
				t.Fatal("kept", room, i, r)
			}
			if s := subOf(r, blind); s.Passed != i+1 || s.Cursor != r.Sent || s.Got+s.Lost != 0 {
				t.Fatal("wants nothing", room, i, s)
			}
		}
	}
}

// TestReadingAtEachPace has one Sub that reads all it can behind each few sendings: it is told first how many are lost, and then the others, one by one.
func TestReadingAtEachPace(t *testing.T) {
	for room := 1; room <= 16; room++ {
		for pace := 1; pace <= 36; pace++ {
			r, id := subscribeTo(t, newRing(t, room, 2), nil, false)
			next := 2
			for range 4 {
				for range pace {
					r, _ = sendTo(t, r, num(10*r.Sent))
				}
				if pace > room {
					d, x := receiveAt(t, r, id, impl.Done)
					if x != (impl.Told{Kind: impl.RLost, N: pace - room}) {
						t.Fatal("lost", room, pace, x)
					}
					r, next = d, next+x.N
				}
				for range min(pace, room) {
					d, x := receiveAt(t, r, id, impl.Done)
					if x != (impl.Told{Kind: impl.RGot, Msg: num(10 * next), Index: next}) {
						t.Fatal("got", room, pace, next, x)
					}
					r, next = d, next+1
				}
				r, _ = receiveAt(t, r, id, impl.Waits)
				if d, code := impl.Unwait(r, id); code != impl.Done || len(d.Items)+len(d.Line) != 0 || next != d.Sent {
					t.Fatal("all is read", room, pace, d, code)
				} else {
					r = d
				}
			}
			if s := subOf(r, id); s.Got != 4*min(pace, room) || s.Lost != 4*max(pace-room, 0) || s.Passed != 0 || s.Cursor-s.Start != 4*pace {
				t.Fatal("counts", room, pace, s)
			}
		}
	}
}

// TestOneWaitsWhileOthersSend has a Sub that wants each fifth number: those ahead of it are passed by while it waits, and nothing is kept for them; from there on all is kept, up to Cap, until it goes on.
func TestOneWaitsWhileOthersSend(t *testing.T) {
	for room := 1; room <= 16; room++ {
		for more := range 40 {
			r, id := subscribeTo(t, newRing(t, room, 1), allOf(dividedBy(5)), false)
			r, _ = receiveAt(t, r, id, impl.Waits)
			for n := 1; n < 5; n++ {
				d, told := sendTo(t, r, num(n))
				if s := subOf(d, id); len(told) != 0 || s.Passed != n || s.Cursor != d.Sent || len(d.Items) != 0 || !slices.Equal(d.Line, []int{id}) {
					t.Fatal("passed by", room, d, told)
				}
				r = d
			}
			r, told := sendTo(t, r, num(5))
			if !slices.Equal(told, []int{id}) || len(r.Line) != 0 || !slices.Equal(r.Grants, []int{id}) || !slices.Equal(r.Items, nums(5)) {
				t.Fatal("told", room, r, told)
			}
			for n := range more {
				d, told := sendTo(t, r, num(6+n))
				if len(told) != 0 || len(d.Items) != min(n+2, room) || subOf(d, id).Cursor != 5 || subOf(d, id).Passed != 4 {
					t.Fatal("told once more", room, more, d, told)
				}
				r = d
			}
			checkGoesOn(t, r, id, room, more)
		}
	}
}

// checkGoesOn: the number 5 was told with the fifth message that was sent to the Sub, and more messages came behind it.
func checkGoesOn(t *testing.T, r impl.Ring, id int, room int, more int) {
	t.Helper()
	d, x, code := impl.Proceed(r, id)
	if more < room {
		if s := subOf(d, id); code != impl.Done || x != (impl.Told{Kind: impl.RGot, Msg: num(5), Index: 5}) || s.Got != 1 || s.Lost != 0 || s.Passed != 4 || len(d.Items) != more {
			t.Fatal("there", room, more, d, x, code)
		}
		return
	}
	gone := more + 1 - room
	if s := subOf(d, id); code != impl.Done || x != (impl.Told{Kind: impl.RLost, N: gone}) || s.Got != 0 || s.Lost != gone || s.Passed != 4 || len(d.Items) != room {
		t.Fatal("lost", room, more, d, x, code)
	}
	// Of what is left it wants the next number that 5 divides.
	next := (5 + gone + 4) / 5 * 5
	d, x, code = impl.Receive(d, id)
	if next < d.Sent && (code != impl.Done || x != (impl.Told{Kind: impl.RGot, Msg: num(next), Index: next})) || next >= d.Sent && code != impl.Waits {
		t.Fatal("behind that", room, more, d, x, code)
	}
}

// TestManyWaitWhileOthersSend has Subs that want numbers by what divides them: each is told by the first that it wants, in the order of Line.
func TestManyWaitWhileOthersSend(t *testing.T) {
	r := newRing(t, 4, 0)
	for by := 12; by >= 1; by-- {
		d, id := subscribeTo(t, r, allOf(dividedBy(by)), false)
		r, _ = receiveAt(t, d, id, impl.Waits)
	}
	for n := 1; n <= 12; n++ {
		d, told := sendTo(t, r, num(n))
		r = d
		// The Sub that wants multiples of n has the Id 12 - n; those of its divisors were told already.
		if !slices.Equal(told, []int{12 - n}) || subOf(r, 12-n).Passed != n-1 || subOf(r, 12-n).Cursor != n-1 || len(r.Line) != 12-n {
			t.Fatal("told", n, told, r)
		}
	}
	r, told := sendTo(t, r, num(27720))
	if len(told) != 0 || len(r.Grants) != 12 || len(r.Items) != 4 {
		t.Fatal("all were told", told, r)
	}
	all := newRing(t, 4, 0)
	for by := 12; by >= 1; by-- {
		d, id := subscribeTo(t, all, allOf(dividedBy(by)), false)
		all, _ = receiveAt(t, d, id, impl.Waits)
	}
	if d, told := sendTo(t, all, num(27720)); !slices.Equal(told, upTo(0, 12)) || !slices.Equal(d.Grants, upTo(0, 12)) || len(d.Line) != 0 {
		t.Fatal("all at once", told, d)
	}
	if d, told := sendTo(t, all, text("a")); len(told) != 0 || len(d.Grants) != 0 || !slices.Equal(d.Line, upTo(0, 12)) || len(d.Items) != 0 {
		t.Fatal("none of them", told, d)
	}
}

// TestLostOnlyWithCapBehind has each message told as long as fewer than Cap are behind it, and lost from then on.
func TestLostOnlyWithCapBehind(t *testing.T) {
	for room := 1; room <= 16; room++ {
		for behind := range 20 {
			r, id := subscribeTo(t, newRing(t, room, 7), nil, false)
			r, _ = sendTo(t, r, text("x"))
			for n := range behind {
				r, _ = sendTo(t, r, num(n))
			}
			want := impl.Told{Kind: impl.RGot, Msg: text("x"), Index: 7}
			if behind >= room {
				want = impl.Told{Kind: impl.RLost, N: behind + 1 - room}
			}
			if _, x := receiveAt(t, r, id, impl.Done); x != want {
				t.Fatal("told", room, behind, x)
			}
		}
	}
}

// TestTheSlowestIsKeptFor has Subs at each distance behind Sent: when the slowest goes, what it alone had not read is gone.
func TestTheSlowestIsKeptFor(t *testing.T) {
	for room := 1; room <= 16; room++ {
		r := newRing(t, room, 0)
		for range 12 {
			r, _ = subscribeTo(t, r, nil, false)
			r, _ = sendTo(t, r, num(r.Sent))
		}
		for id := range 12 {
			var want []impl.Msg
			for n := max(id, 12-room); n < 12; n++ {
				want = append(want, num(n))
			}
			if !slices.Equal(r.Items, want) {
				t.Fatal("kept", room, id, r)
			}
			d, code := impl.Unsubscribe(r, id)
			if code != impl.Done || !impl.RingOk(d) {
				t.Fatal("unsubscribe", room, id, d, code)
			}
			r = d
		}
		if len(r.Items)+len(r.Subs) != 0 || r.Sent != 12 || r.Next != 12 {
			t.Fatal("nobody is left", room, r)
		}
		for n := range 40 {
			r, _ = sendTo(t, r, num(n))
			if len(r.Items) != 0 {
				t.Fatal("kept for nobody", room, r)
			}
		}
	}
}

// TestAClosedRingIsReadToItsEnd has each number of messages left, and Subs that want all, some and none of them.
func TestAClosedRingIsReadToItsEnd(t *testing.T) {
	for room := 1; room <= 16; room++ {
		for left := range 20 {
			for _, f := range subFilters() {
				r, id := subscribeTo(t, newRing(t, room, 0), f, false)
				want := 0
				for n := range left {
					r, _ = sendTo(t, r, sentAs(n))
					if n >= left-room && impl.Passes(f, sentAs(n)) {
						want++
					}
				}
				r, told, code := impl.CloseRing(r)
				if code != impl.Done || len(told) != 0 {
					t.Fatal("close", room, left, told, code)
				}
				if left > room {
					r, _ = receiveAt(t, r, id, impl.Done)
				}
				for range want {
					d, x := receiveAt(t, r, id, impl.Done)
					if x.Kind != impl.RGot || x.Msg != sentAs(x.Index) {
						t.Fatal("got", room, left, x)
					}
					r = d
				}
				for range 3 {
					r, _ = receiveAt(t, r, id, impl.Over)
				}
				if s := subOf(r, id); s.Got != want || s.Lost != max(left-room, 0) || s.Cursor != left || len(r.Items)+len(r.Line)+len(r.Grants) != 0 {
					t.Fatal("at its end", room, left, r)
				}
			}
		}
	}
}

// TestWhoWaitsIsToldOfTheEnd has n that wait and one that was told of a message: all of them are let go, and are over once they have read.
func TestWhoWaitsIsToldOfTheEnd(t *testing.T) {
	for n := range 12 {
		r := newRing(t, 2, 0)
		for range n {
			d, id := subscribeTo(t, r, allOf(bare(3)), false)
			r, _ = receiveAt(t, d, id, impl.Waits)
		}
		r, last := subscribeTo(t, r, nil, false)
		r, _ = receiveAt(t, r, last, impl.Waits)
		r, _ = sendTo(t, r, num(1))
		r, told, code := impl.CloseRing(r)
		if code != impl.Done || !slices.Equal(told, upTo(0, n)) || !slices.Equal(r.Grants, append([]int{last}, upTo(0, n)...)) || len(r.Line) != 0 || !r.Closed {
			t.Fatal("close", n, r, told, code)
		}
		for id := range n {
			d, x, code := impl.Proceed(r, id)
			if code != impl.Over || x != (impl.Told{}) {
				t.Fatal("over", n, id, x, code)
			}
			r, _ = receiveAt(t, d, id, impl.Over)
		}
		r, x, code := impl.Proceed(r, last)
		if code != impl.Done || x != (impl.Told{Kind: impl.RGot, Msg: num(1), Index: 0}) {
			t.Fatal("the message is told even so", n, x, code)
		}
		r, _ = receiveAt(t, r, last, impl.Over)
		if len(r.Line)+len(r.Grants)+len(r.Items) != 0 {
			t.Fatal("nobody waits", n, r)
		}
	}
}

// TestTheLastMessagesAndIds: the last message that there can be is taken, told and read, and none behind it; the last Id is given once.
func TestTheLastMessagesAndIds(t *testing.T) {
	r := impl.Ring{Cap: 2, Sent: most - 3, Next: most - 2}
	r, first := subscribeTo(t, r, nil, false)
	r, second := subscribeTo(t, r, allOf(bare(2)), true)
	if first != most-2 || second != most-1 || r.Next != most {
		t.Fatal("ids", first, second, r)
	}
	r, _ = receiveAt(t, r, second, impl.Waits)
	for n := range 3 {
		r, _ = sendTo(t, r, num(n))
	}
	if d, told, code := impl.Send(r, num(3)); code != impl.Full || len(told) != 0 || !sameRing(d, r) {
		t.Fatal("one more", d, told, code)
	}
	d, x := receiveAt(t, r, first, impl.Done)
	if x != (impl.Told{Kind: impl.RLost, N: 1}) {
		t.Fatal("lost", x)
	}
	d, _ = receiveAt(t, d, first, impl.Done)
	d, x = receiveAt(t, d, first, impl.Done)
	if x != (impl.Told{Kind: impl.RGot, Msg: num(2), Index: most - 1}) {
		t.Fatal("the last one", x)
	}
	d, _ = receiveAt(t, d, first, impl.Waits)
	d, code := impl.Unsubscribe(d, second)
	if code != impl.Done || len(d.Items) != 0 || len(d.Grants) != 0 {
		t.Fatal("unsubscribe", d, code)
	}
	if e, id, code := impl.Subscribe(d, nil, false); code != impl.Full || id != -1 || !sameRing(e, d) {
		t.Fatal("one more Id", e, id, code)
	}
}

// TestIdsAreNotGivenTwice: who subscribes behind others that have left has an Id of its own.
func TestIdsAreNotGivenTwice(t *testing.T) {
	r := newRing(t, 3, 2)
	for want := range 200 {
		d, id := subscribeTo(t, r, nil, want%2 == 0)
		if id != want || d.Next != want+1 || d.Subs[len(d.Subs)-1].Id != want {
			t.Fatal("id", want, id, d)
		}
		r = d
		if want%3 > 0 || len(r.Subs) > 10 {
			r, _ = impl.Unsubscribe(r, r.Subs[want%len(r.Subs)].Id)
		}
		if want%4 > 1 {
			r, _ = sendTo(t, r, num(want))
		}
	}
}
