package tests

import (
	"slices"
	"strings"
	"testing"

	"loop.example/g01295/impl"
)

// callTwo calls all functions of the chapter that take numbers, and returns all lists of their results.
func callTwo(a, b int) [][]int {
	impl.TwoLast(a)
	impl.GreatestPower(a)
	impl.BinaryOf(a)
	impl.CountRounds(a)
	impl.SumOfLast(a)
	impl.TurnBinary(a, b)
	impl.TwoTurn(a, b)
	impl.TwoAt(a, b)
	impl.TwoRound(a, b)
	impl.NextLeaving(a, b)
	sizes, _ := impl.RoundSizes(a)
	chain, _ := impl.ChainOf(a)
	leaving, _ := impl.CirclesLeaving(a, b)
	with, _ := impl.CirclesWithLast(a, b)
	first, _ := impl.TwoFirst(a, b)
	return [][]int{sizes, chain, leaving, with, first}
}

func TestTwoNeverPanics(t *testing.T) {
	numbers := append(slices.Clone(extremes), 39, 40, 41, 99, 100, 101, 1<<39-1, 1<<39, 1<<39+1,
		impl.MaxMany-200, impl.MaxMany-199, impl.MaxMany-1, impl.MaxMany, impl.MaxMany+1, 1<<40)
	for _, a := range numbers {
		for _, b := range numbers {
			callTwo(a, b)
		}
	}
	for _, s := range []string{"", "\x00", "1\xff", "0", "1", strings.Repeat("1", 1000000), "\xf0\x9f\x98", "1\u2028"} {
		impl.NumberOfBinary(s)
	}
}

func TestTwoCallsAreAlike(t *testing.T) {
	for _, people := range []int{1, 3, 10, 64, 199} {
		kept := callTwo(people, people)
		for i, list := range callTwo(people, people) {
			overwrite(list)
			if again := callTwo(people, people); !slices.Equal(again[i], kept[i]) {
				t.Error("a second call gives something else:", people, kept[i], again[i])
			}
		}
	}
}
