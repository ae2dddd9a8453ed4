package tests

import (
	"math"
	"slices"
	"strings"
	"testing"

	"loop.example/g00098/impl"
)

// The tests of this file have their answers written out, so that they lean on no second way to work them out.

func topic(name string, r impl.Ring) impl.Topic { return impl.Topic{Name: name, Ring: r} }

func topics(list ...impl.Topic) []impl.Topic { return list }

func hits(pairs ...[2]int) []impl.Hit {
	var list []impl.Hit
	for _, p := range pairs {
		list = append(list, impl.Hit{Topic: p[0], Id: p[1]})
	}
	return list
}

func sameTopic(a impl.Topic, b impl.Topic) bool { return a.Name == b.Name && sameRing(a.Ring, b.Ring) }

func sameTopics(a []impl.Topic, b []impl.Topic) bool { return slices.EqualFunc(a, b, sameTopic) }

// empties are topics of these names with Cap 1, 2 and so on, in which nothing was sent.
func empties(names ...string) []impl.Topic {
	var list []impl.Topic
	for i, name := range names {
		list = append(list, topic(name, impl.Ring{Cap: i%16 + 1}))
	}
	return list
}

// twelve are as many names as there can be topics.
func twelve() []string {
	return []string{"a", "b", "c", "d", "e", "f", "g", "a.b", "a.c", "a.b.c", strings.Repeat("z", 24), "0"}
}

func TestTopicsOkByHand(t *testing.T) {
	waits := waitedFor(keeps(3, 5, nil, 9, fresh(2, 5), fresh(7, 5)), []int{7}, []int{2})
	for i, list := range [][]impl.Topic{
		nil, {}, empties("a"), empties("a", "b"), empties("b", "a"), empties("a", "a.a"), empties("a", "aa"), empties(twelve()[:11]...), empties(twelve()...), empties(strings.Repeat("a", 24), strings.Repeat("a", 23)),
		topics(topic("a", waits), topic("b", waits)), topics(topic("a", impl.Ring{Cap: 16, Sent: most, Next: most, Closed: true})),
	} {
		if !impl.TopicsOk(list) {
			t.Error("not right", i, list)
		}
	}
	more := append(empties(twelve()...), topic("y", impl.Ring{Cap: 1}))
	for i, list := range [][]impl.Topic{
		more, slices.Repeat(empties("a"), 13), slices.Repeat(empties("a"), 100000), make([]impl.Topic, 13),
		{{}}, empties(""), empties("a", ""), empties("A"), empties("a."), empties("a..b"), empties("*"), empties(">"), empties("a.*"), empties("a", "b.>"), empties(strings.Repeat("a", 25)),
		empties("a", "a"), empties("a", "b", "a"), empties("b", "a", "a"), empties("a", "b", "c", "b"), append(empties(twelve()[:11]...), topic("a", impl.Ring{Cap: 1})), append(empties(twelve()[:11]...), topic("a.b.c", impl.Ring{Cap: 1})),
		topics(topic("a", impl.Ring{})), topics(topic("a", impl.Ring{Cap: 17})), append(empties("a"), topic("b", impl.Ring{Cap: 1, Sent: -1})), append(topics(topic("b", impl.Ring{})), empties("a")...), append(empties(twelve()[:11]...), topic("0", impl.Ring{})),
		topics(topic("a", closedRing(waits))), topics(topic("a", keeps(3, 5, nums(1), 9, fresh(2, 5)))),
	} {
		if impl.TopicsOk(list) {
			t.Error("right", i)
		}
	}
}

func TestTopicAtByHand(t *testing.T) {
	list := empties(twelve()...)
	for i, name := range twelve() {
		if at := impl.TopicAt(list, name); at != i {
			t.Error("at", name, at)
		}
		if at := impl.TopicAt(list[i:], name); at != 0 {
			t.Error("the first", name, at)
		}
		if at := impl.TopicAt(list[:i], name); at != -1 {
			t.Error("not there yet", name, at)
		}
	}
	for _, name := range append(wrongTexts(), "h", "aa", "a.a", "a.b.d", "a.b.c.d", "b.a", "*", ">", "a.*", "a.>", "00", strings.Repeat("z", 23)) {
		if at := impl.TopicAt(list, name); at != -1 {
			t.Errorf("%.60q is at %d", name, at)
		}
		if at := impl.TopicAt(nil, name); at != -1 {
			t.Errorf("%.60q is at %d of none", name, at)
		}
	}
	for i, wrong := range [][]impl.Topic{
		append(empties(twelve()...), topic("y", impl.Ring{Cap: 1})), empties("a", "a"), empties("a", ""), empties("", "a"), empties("a", "*"), append(empties("a"), topic("b", impl.Ring{})), append(topics(topic("b", impl.Ring{})), empties("a")...),
	} {
		for _, name := range []string{"a", "b", "y", "", "*"} {
			if at := impl.TopicAt(wrong, name); at != -1 {
				t.Error("at of a wrong list", i, name, at)
			}
		}
	}
}

func TestOpenTopicByHand(t *testing.T) {
	full := empties(twelve()...)
	nearly, twice := full[:11], empties("a", "a")
	more := append(empties(twelve()...), topic("y", impl.Ring{Cap: 1}))
	used := topics(topic("a", waitedFor(keeps(3, 5, nums(4), 9, fresh(2, 4), fresh(7, 5)), []int{7}, []int{2})), topic("b", closedRing(keeps(1, 5, nil, 0))))
	for i, x := range []struct {
		list []impl.Topic
		name string
		room int
		at   int
		code int
	}{
		{nil, "a", 1, 0, impl.Done}, {nil, "a", 16, 0, impl.Done}, {nil, "a.b.c", 7, 0, impl.Done}, {nil, strings.Repeat("a", 24), 2, 0, impl.Done}, {used, "c", 3, 2, impl.Done}, {used, "a.b", 1, 2, impl.Done}, {used, "aa", 1, 2, impl.Done}, {nearly, "y", 16, 11, impl.Done}, {nearly, "0", 1, 11, impl.Done},
		{nil, "a", 0, -1, impl.Bad}, {nil, "a", 17, -1, impl.Bad}, {nil, "a", -1, -1, impl.Bad}, {nil, "a", math.MinInt, -1, impl.Bad}, {nil, "a", math.MaxInt, -1, impl.Bad}, {nil, "a", 1<<32 + 1, -1, impl.Bad},
		{nil, "", 1, -1, impl.Bad}, {nil, "*", 1, -1, impl.Bad}, {nil, ">", 1, -1, impl.Bad}, {nil, "a.*", 1, -1, impl.Bad}, {nil, "a.>", 1, -1, impl.Bad}, {nil, "a.", 1, -1, impl.Bad}, {nil, strings.Repeat("a", 25), 1, -1, impl.Bad}, {used, "A", 1, -1, impl.Bad},
		{twice, "b", 1, -1, impl.Bad}, {twice, "a", 1, -1, impl.Bad}, {more, "x", 1, -1, impl.Bad}, {more, "a", 1, -1, impl.Bad}, {topics(topic("a", impl.Ring{})), "b", 1, -1, impl.Bad}, {topics(topic("a", impl.Ring{})), "a", 1, -1, impl.Bad}, {empties("*"), "b", 1, -1, impl.Bad},
		{used, "a", 1, -1, impl.There}, {used, "b", 16, -1, impl.There}, {full, "a", 1, -1, impl.There}, {full, "0", 16, -1, impl.There}, {full, strings.Repeat("z", 24), 1, -1, impl.There},
		{full, "y", 1, -1, impl.Full}, {full, "a.b.c.d", 16, -1, impl.Full},
		// The reason that is named first counts.
		{used, "a", 0, -1, impl.Bad}, {used, "a", 17, -1, impl.Bad}, {full, "a", 0, -1, impl.Bad}, {full, "y", 0, -1, impl.Bad}, {full, "y", 17, -1, impl.Bad}, {full, "*", 1, -1, impl.Bad}, {full, "", 1, -1, impl.Bad}, {twice, "*", 0, -1, impl.Bad},
	} {
		want := x.list
		if x.code == impl.Done {
			want = append(slices.Clone(x.list), topic(x.name, impl.Ring{Cap: x.room}))
		}
		if list, at, code := impl.OpenTopic(x.list, x.name, x.room); at != x.at || code != x.code || !sameTopics(list, want) {
			t.Error("open", i, brief(list), at, code)
		}
	}
}

// publishCase has only those topics in want that are not as they were.
type publishCase struct {
	pattern string
	m       impl.Msg
	want    map[int]impl.Ring
	told    []impl.Hit
	took    int
	code    int
}

func checkPublishes(t *testing.T, list []impl.Topic, cases []publishCase) {
	t.Helper()
	for i, x := range cases {
		want := slices.Clone(list)
		for at, r := range x.want {
			want[at].Ring = r
		}
		if d, told, took, code := impl.Publish(list, x.pattern, x.m); !sameTopics(d, want) || !slices.Equal(told, x.told) || took != x.took || code != x.code {
			t.Error("publish", i, brief(d), told, took, code)
		}
	}
}

// TestPublishByHand has patterns that match none, one, several and all; nobody waits, and for one Sub it is kept.
func TestPublishByHand(t *testing.T) {
	list := topics(topic("a", keeps(2, 0, nil, 0)), topic("a.b", keeps(1, 7, nil, 1, fresh(0, 7))), topic("a.c", keeps(2, 3, nums(2, 3), 4, fresh(3, 1))), topic("b", keeps(3, most-1, nil, 0)), topic("a.b.c", keeps(1, 0, nil, 5)))
	m := num(4)
	a, ab, ac := keeps(2, 1, nil, 0), keeps(1, 8, nums(4), 1, fresh(0, 7)), keeps(2, 4, nums(3, 4), 4, fresh(3, 1))
	b, abc := keeps(3, most, nil, 0), keeps(1, 1, nil, 5)
	rings := func(numbers ...int) map[int]impl.Ring {
		all := []impl.Ring{a, ab, ac, b, abc}
		some := map[int]impl.Ring{}
		for _, n := range numbers {
			some[n] = all[n]
		}
		return some
	}
	checkPublishes(t, list, []publishCase{
		{"a", m, rings(0), nil, 1, impl.Done},
		{"a.b", m, rings(1), nil, 1, impl.Done},
		{"a.c", m, rings(2), nil, 1, impl.Done},
		{"b", m, rings(3), nil, 1, impl.Done},
		{"a.b.c", m, rings(4), nil, 1, impl.Done},
		{"*", m, rings(0, 3), nil, 2, impl.Done},
		{"a.*", m, rings(1, 2), nil, 2, impl.Done},
		{"*.b", m, rings(1), nil, 1, impl.Done},
		{"*.*", m, rings(1, 2), nil, 2, impl.Done},
		{"*.b.*", m, rings(4), nil, 1, impl.Done},
		{"*.*.*", m, rings(4), nil, 1, impl.Done},
		{"a.>", m, rings(1, 2, 4), nil, 3, impl.Done},
		{"*.>", m, rings(1, 2, 4), nil, 3, impl.Done},
		{"a.b.>", m, rings(4), nil, 1, impl.Done},
		{">", m, rings(0, 1, 2, 3, 4), nil, 5, impl.Done},
		{"c", m, nil, nil, 0, impl.None},
		{"aa", m, nil, nil, 0, impl.None},
		{"b.*", m, nil, nil, 0, impl.None},
		{"b.>", m, nil, nil, 0, impl.None},
		{"a.a", m, nil, nil, 0, impl.None},
		{"a.b.c.>", m, nil, nil, 0, impl.None},
		{"*.*.*.*", m, nil, nil, 0, impl.None},
		{"", m, nil, nil, 0, impl.Bad},
		{"a.", m, nil, nil, 0, impl.Bad},
		{"a*", m, nil, nil, 0, impl.Bad},
		{"A", m, nil, nil, 0, impl.Bad},
		{">.a", m, nil, nil, 0, impl.Bad},
		{strings.Repeat("a", 25), m, nil, nil, 0, impl.Bad},
		{"a", impl.Msg{}, nil, nil, 0, impl.Bad},
		{">", num(1000000000), nil, nil, 0, impl.Bad},
		{">", text("\""), nil, nil, 0, impl.Bad},
		// The reason that is named first counts.
		{"c", impl.Msg{}, nil, nil, 0, impl.Bad},
		{"", impl.Msg{}, nil, nil, 0, impl.Bad},
	})
	checkPublishes(t, nil, []publishCase{{">", m, nil, nil, 0, impl.None}, {"a", m, nil, nil, 0, impl.None}, {"", m, nil, nil, 0, impl.Bad}, {"a", impl.Msg{}, nil, nil, 0, impl.Bad}})
}

// TestPublishToThoseThatRefuse has a topic that is closed, one that is full, one that is both, and one that takes it.
func TestPublishToThoseThatRefuse(t *testing.T) {
	closed := closedRing(waitedFor(keeps(2, 4, nums(3), 9, fresh(6, 3), fresh(8, 4)), nil, []int{8, 6}))
	full := waitedFor(keeps(2, most, nil, 3, fresh(1, most), fresh(2, most)), []int{2}, []int{1})
	both := closedRing(keeps(1, most, nums(5), 1, fresh(0, most-1)))
	open := waitedFor(keeps(4, 9, nil, 6, fresh(5, 9)), []int{5}, nil)
	took := waitedFor(keeps(4, 10, nums(7), 6, fresh(5, 9)), nil, []int{5})
	list := topics(topic("x.closed", closed), topic("y.open", open), topic("x.full", full), topic("x.both", both), topic("x.open", open))
	checkPublishes(t, list, []publishCase{
		{"x.closed", num(7), nil, nil, 0, impl.Over},
		{"x.full", num(7), nil, nil, 0, impl.Over},
		{"x.both", num(7), nil, nil, 0, impl.Over},
		{"x.open", num(7), map[int]impl.Ring{4: took}, hits([2]int{4, 5}), 1, impl.Done},
		{"x.*", num(7), map[int]impl.Ring{4: took}, hits([2]int{4, 5}), 1, impl.Done},
		{"*.open", num(7), map[int]impl.Ring{1: took, 4: took}, hits([2]int{1, 5}, [2]int{4, 5}), 2, impl.Done},
		{">", num(7), map[int]impl.Ring{1: took, 4: took}, hits([2]int{1, 5}, [2]int{4, 5}), 2, impl.Done},
		{"z", num(7), nil, nil, 0, impl.None},
		{"x.closed", impl.Msg{}, nil, nil, 0, impl.Bad},
		{"x.full", text("\n"), nil, nil, 0, impl.Bad},
		{"x.>.", num(7), nil, nil, 0, impl.Bad},
	})
	checkPublishes(t, append(slices.Clone(list[:1]), list[2:4]...), []publishCase{{">", num(7), nil, nil, 0, impl.Over}, {"x.*", text("a"), nil, nil, 0, impl.Over}, {"x.full", num(1), nil, nil, 0, impl.Over}, {"y.*", num(1), nil, nil, 0, impl.None}, {">", impl.Msg{}, nil, nil, 0, impl.Bad}})
}

// TestPublishToThoseThatWait has several Subs that wait at one topic and Subs that wait at several, with filters, told topic by topic, and at each in the order of Line.
func TestPublishToThoseThatWait(t *testing.T) {
	numbers, texts := bare(2), bare(3)
	three := waitedFor(keeps(2, 5, nil, 9, fresh(0, 5, numbers), fresh(4, 5), fresh(8, 5, texts)), []int{8, 4, 0}, nil)
	one := waitedFor(keeps(2, 5, nums(6, 5), 9, fresh(0, 3), fresh(4, 5, numbers)), []int{4}, []int{0})
	none := keeps(1, 5, nums(6), 9, fresh(0, 3), fresh(4, 5, texts))
	list := topics(topic("w.a", three), topic("w.b", none), topic("v", three), topic("w.c", one))
	passedBy := func(s impl.Sub) impl.Sub {
		s.Cursor, s.Passed = s.Cursor+1, s.Passed+1
		return s
	}
	byNumber := waitedFor(keeps(2, 6, nums(7), 9, fresh(0, 5, numbers), fresh(4, 5), passedBy(fresh(8, 5, texts))), []int{8}, []int{4, 0})
	byText := waitedFor(keeps(2, 6, []impl.Msg{text("t")}, 9, passedBy(fresh(0, 5, numbers)), fresh(4, 5), fresh(8, 5, texts)), []int{0}, []int{8, 4})
	oneByNumber := waitedFor(keeps(2, 6, nums(5, 7), 9, fresh(0, 3), fresh(4, 5, numbers)), nil, []int{0, 4})
	oneByText := waitedFor(keeps(2, 6, []impl.Msg{num(5), text("t")}, 9, fresh(0, 3), passedBy(fresh(4, 5, numbers))), []int{4}, []int{0})
	noneByNumber := keeps(1, 6, nums(7), 9, fresh(0, 3), fresh(4, 5, texts))
	noneByText := keeps(1, 6, []impl.Msg{text("t")}, 9, fresh(0, 3), fresh(4, 5, texts))
	checkPublishes(t, list, []publishCase{
		{"w.a", num(7), map[int]impl.Ring{0: byNumber}, hits([2]int{0, 4}, [2]int{0, 0}), 1, impl.Done},
		{"w.a", text("t"), map[int]impl.Ring{0: byText}, hits([2]int{0, 8}, [2]int{0, 4}), 1, impl.Done},
		{"w.b", num(7), map[int]impl.Ring{1: noneByNumber}, nil, 1, impl.Done},
		{"w.c", text("t"), map[int]impl.Ring{3: oneByText}, nil, 1, impl.Done},
		{"w.*", num(7), map[int]impl.Ring{0: byNumber, 1: noneByNumber, 3: oneByNumber}, hits([2]int{0, 4}, [2]int{0, 0}, [2]int{3, 4}), 3, impl.Done},
		{"w.>", text("t"), map[int]impl.Ring{0: byText, 1: noneByText, 3: oneByText}, hits([2]int{0, 8}, [2]int{0, 4}), 3, impl.Done},
		{">", num(7), map[int]impl.Ring{0: byNumber, 1: noneByNumber, 2: byNumber, 3: oneByNumber}, hits([2]int{0, 4}, [2]int{0, 0}, [2]int{2, 4}, [2]int{2, 0}, [2]int{3, 4}), 4, impl.Done},
		{"*", text("t"), map[int]impl.Ring{2: byText}, hits([2]int{2, 8}, [2]int{2, 4}), 1, impl.Done},
	})
}

// TestPublishAtWrongLists: the list handed back, nothing told, none that took it, and Bad, whatever the pattern and the message.
func TestPublishAtWrongLists(t *testing.T) {
	for i, list := range [][]impl.Topic{
		append(empties(twelve()...), topic("y", impl.Ring{Cap: 1})), empties("a", "a"), empties("a", ""), empties("", "a"), empties("a", "*"), empties("a", "b", "c", "b"), append(empties("a"), topic("b", impl.Ring{})), append(topics(topic("b", impl.Ring{})), empties("a")...), {{}}, append(empties("a"), topic("b", closedRing(waitedFor(keeps(1, 0, nil, 1, fresh(0, 0)), []int{0}, nil)))),
	} {
		for _, pattern := range []string{"a", ">", "*", "z", "", "a*"} {
			for _, m := range []impl.Msg{num(1), {}} {
				if d, told, took, code := impl.Publish(list, pattern, m); !sameTopics(d, list) || len(told) != 0 || took != 0 || code != impl.Bad {
					t.Error("publish", i, pattern, m, d, told, took, code)
				}
			}
		}
	}
}

// TestOpeningAndPublishing opens as many topics as there can be, one behind the other.
func TestOpeningAndPublishing(t *testing.T) {
	var list []impl.Topic
	for i, name := range twelve() {
		d, at, code := impl.OpenTopic(list, name, i+1)
		if at != i || code != impl.Done || !impl.TopicsOk(d) || len(d) != i+1 || !sameTopics(d[:i], list) || impl.TopicAt(d, name) != i {
			t.Fatal("open", name, d, at, code)
		}
		if e, at, code := impl.OpenTopic(d, name, i+1); at != -1 || code != impl.There || !sameTopics(e, d) {
			t.Fatal("once more", name, e, at, code)
		}
		if e, told, took, code := impl.Publish(d, name, num(i)); code != impl.Done || took != 1 || len(told) != 0 || e[i].Ring.Sent != 1 || !sameTopics(e[:i], d[:i]) {
			t.Fatal("publish", name, e, told, took, code)
		}
		if e, told, took, code := impl.Publish(d, ">", text("all")); code != impl.Done || took != i+1 || len(told) != 0 || slices.ContainsFunc(e, func(x impl.Topic) bool { return x.Ring.Sent != 1 }) {
			t.Fatal("publish to all", name, e, told, took, code)
		}
		list = d
	}
	if d, at, code := impl.OpenTopic(list, "y", 1); at != -1 || code != impl.Full || !sameTopics(d, list) {
		t.Fatal("one more", d, at, code)
	}
}
