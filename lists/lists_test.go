package lists_test

import (
	"math"
	"slices"
	"testing"

	"swingle/lists"
)

// All asks no more after the first one for which it is not so.
func TestAll(t *testing.T) {
	asked := 0
	small := func(n int) bool {
		asked++
		return n < 3
	}
	if !lists.All(nil, small) || !lists.All([]int{0, 1, 2}, small) || lists.All([]int{0, 3, 1, 4}, small) {
		t.Error("wrong")
	}
	if asked != 5 {
		t.Error(asked)
	}
}

func TestHas(t *testing.T) {
	list := []string{"a", "b"}
	for n, want := range map[int]bool{0: true, 1: true, 2: false, -1: false, math.MaxInt: false, math.MinInt: false} {
		if lists.Has(list, n) != want || lists.Has(list[:0], n) {
			t.Error(n)
		}
	}
}

func TestMap(t *testing.T) {
	list := []string{"a", "", "bcd"}
	made := lists.Map(list, func(s string) int { return len(s) })
	if !slices.Equal(made, []int{1, 0, 3}) {
		t.Error(made)
	}
	if made := lists.Map(list[:0], func(s string) string { return s }); made != nil {
		t.Error(made)
	}
}
