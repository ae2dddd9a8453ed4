package tests

import (
	"slices"
	"testing"
)

const filler = -424242

// spare is how much room roomyWith lays behind a list.
const spare = 40

// roomyWith is a copy of list with spare room behind it, filled, so that a write there is seen by roomKeptWith.
func roomyWith[T comparable](list []T, fill T) []T {
	room := append(slices.Clone(list), slices.Repeat([]T{fill}, spare)...)
	return room[:len(list)]
}

// roomKeptWith tells whether given, made by roomyWith(list, fill), and the room behind it are as they were.
func roomKeptWith[T comparable](given []T, list []T, fill T) bool {
	room := given[:len(list)+spare]
	if !slices.Equal(room[:len(list)], list) {
		return false
	}
	return !slices.ContainsFunc(room[len(list):], func(x T) bool { return x != fill })
}

func roomy(list []int) []int { return roomyWith(list, filler) }

// spoilWith changes each value of a list and of the spare room behind it.
func spoilWith[T any](list []T, change func(T) T) {
	room := list[:cap(list)]
	for i := range room {
		room[i] = change(room[i])
	}
}

// checkApartWith spoils the answers one by one by change, which tells another value than it is given: neither the argument nor another answer may change by it.
func checkApartWith[T comparable](t *testing.T, what string, given []T, list []T, fill T, change func(T) T, answers ...[]T) {
	t.Helper()
	if !roomKeptWith(given, list, fill) {
		t.Errorf("%s writes into its argument: %v", what, list)
	}
	for i, a := range answers {
		var before [][]T
		for _, b := range answers {
			before = append(before, slices.Clone(b))
		}
		spoilWith(a, change)
		if !roomKeptWith(given, list, fill) {
			t.Errorf("%s: answer %d shares memory with its argument: %v", what, i, list)
		}
		for j, b := range answers {
			if j != i && !slices.Equal(b, before[j]) {
				t.Errorf("%s: answers %d and %d share memory: %v", what, i, j, list)
			}
		}
	}
}

// lieApart lays a number of its own into each place, and tells whether all of them are still there then: where two share memory the one ahead has lost it.
func lieApart(places []*int) bool {
	for i, p := range places {
		*p = 7000000 + i
	}
	for i, p := range places {
		if *p != 7000000+i {
			return false
		}
	}
	return true
}

func checkApart(t *testing.T, what string, given []int, list []int, answers ...[]int) {
	t.Helper()
	checkApartWith(t, what, given, list, filler, func(n int) int { return n + 1000003 }, answers...)
}
