package tests

import (
	"slices"
	"testing"
)

const filler = -424242

// roomy is a copy of list with spare room behind it, filled, so that a write there is seen by roomKept.
func roomy(list []int) []int {
	room := append(slices.Clone(list), slices.Repeat([]int{filler}, 40)...)
	return room[:len(list)]
}

// roomKept tells whether given, made by roomy(list), and the room behind it are as they were.
func roomKept(given []int, list []int) bool {
	room := given[:len(list)+40]
	if !slices.Equal(room[:len(list)], list) {
		return false
	}
	return !slices.ContainsFunc(room[len(list):], func(n int) bool { return n != filler })
}

// spoil writes mark over a list and the spare room behind it.
func spoil(list []int, mark int) {
	room := list[:cap(list)]
	for i := range room {
		room[i] = mark
	}
}

// checkApart spoils the answers one by one, each with a mark of its own: neither the argument nor another answer may change by it.
func checkApart(t *testing.T, what string, given []int, list []int, answers ...[]int) {
	t.Helper()
	if !roomKept(given, list) {
		t.Errorf("%s writes into its argument: %v", what, list)
	}
	for i, a := range answers {
		var before [][]int
		for _, b := range answers {
			before = append(before, slices.Clone(b))
		}
		spoil(a, filler-1-i)
		if !roomKept(given, list) {
			t.Errorf("%s: answer %d shares memory with its argument: %v", what, i, list)
		}
		for j, b := range answers {
			if j != i && !slices.Equal(b, before[j]) {
				t.Errorf("%s: answers %d and %d share memory: %v", what, i, j, list)
			}
		}
	}
}
