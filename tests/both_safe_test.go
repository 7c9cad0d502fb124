package tests

import (
	"slices"
	"testing"

	"loop.example/g01295/impl"
)

// callBoth calls all functions of the chapter but RoundOfPerson, and returns all lists of their results, the rounds of TwoCount last.
func callBoth(a, b, c int) [][]int {
	impl.TurningLast(a, b)
	impl.TurningTurn(a, b, c)
	impl.LastOfBoth(a, b, c)
	impl.CountRoundsOfTwo(a, b, c)
	impl.StepsToMeet(a, b)
	impl.MirrorPerson(a, b)
	turning, _ := impl.TurningOrder(a, b)
	table, _ := impl.TurningTable(a, b)
	order, _ := impl.ForthAndBack(a, b, c)
	both, _ := impl.ChosenByBoth(a, b, c)
	last, _ := impl.LastTogether(a, b, c)
	same, _ := impl.StepsForthSame(a, b)
	rounds, _ := impl.TwoCount(a, b, c)
	return append([][]int{turning, table, order, both, last, same}, rounds...)
}

func TestBothNeverPanic(t *testing.T) {
	for _, a := range append([]int{19, 20, 21}, extremes...) {
		for _, b := range extremes {
			for _, c := range extremes {
				callBoth(a, b, c)
				for _, person := range []int{c, 0, 1, a - 1, a} {
					impl.RoundOfPerson(a, b, c, person)
					impl.RoundOfPerson(a, c, person, b)
				}
			}
		}
	}
}

func TestBothCallsAreAlike(t *testing.T) {
	for _, people := range []int{1, 5, 10, 199} {
		kept := callBoth(people, 7, 4)
		for i, list := range callBoth(people, 7, 4) {
			overwrite(list)
			if again := callBoth(people, 7, 4); !slices.Equal(again[i], kept[i]) {
				t.Error("a second call gives something else:", people, kept[i], again[i])
			}
		}
	}
}

func TestRoundsShareNothing(t *testing.T) {
	for _, people := range []int{1, 2, 3, 10, 11, 199, 200} {
		for _, steps := range [][2]int{{1, 1}, {4, 3}, {3, 4}, {7, impl.MaxStep}} {
			want, _ := impl.TwoCount(people, steps[0], steps[1])
			for i := range want {
				rounds, _ := impl.TwoCount(people, steps[0], steps[1])
				_ = append(rounds[i], -77, -77, -77)
				overwrite(rounds[i])
				for j, round := range rounds {
					if j != i && !slices.Equal(round, want[j]) {
						t.Error("a round changes with another one:", people, steps, i, j, round, want[j])
					}
				}
			}
		}
	}
}
