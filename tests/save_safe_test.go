package tests

import (
	"slices"
	"testing"

	"loop.example/g01295/impl"
)

// callSaving calls all functions of the chapter that take a list, and returns their results and whether they succeed.
func callSaving(people int, list []int) ([3]int, [3]bool) {
	var results [3]int
	var oks [3]bool
	results[0], oks[0] = impl.StepSaving(people, list)
	results[1], oks[1] = impl.CountSaving(people, list)
	results[2], oks[2] = impl.StepsFirstOut(people, list)
	return results, oks
}

// callLists calls all functions of the chapter that return lists, and returns these.
func callLists(a, b, c int) [][]int {
	table, _ := impl.LastTable(a, b)
	left, _ := impl.CanBeLeft(a)
	ones, _ := impl.LastOnes(a, b, c)
	best, _ := impl.BestPlaces(a, b)
	same, _ := impl.SameOrderSteps(a, b, c)
	return [][]int{table, left, ones, best, same}
}

func TestSavingNeverPanics(t *testing.T) {
	for _, a := range append([]int{8, 9, 12, 13}, extremes...) {
		impl.PeriodOfSteps(a)
		impl.StepForFriends(a)
		for _, b := range extremes {
			impl.StepForLast(a, b)
			impl.CountForLast(a, b)
			callSaving(a, []int{b})
			callSaving(a, []int{0, b})
			callSaving(a, []int{b, 1})
			for _, c := range extremes {
				callLists(a, b, c)
				impl.MeanTurn(a, b, c)
				impl.NextStepFor(a, b, c)
			}
		}
		for _, list := range noGroups(7) {
			callSaving(a, list)
		}
	}
}

func TestGroupsStayAsTheyAre(t *testing.T) {
	for people := 1; people <= 7; people++ {
		lists := noGroups(people)
		for g := group(1); g < 1<<people; g++ {
			lists = append(lists, g.list())
		}
		for _, given := range lists {
			list, whole := withRoom(given)
			before := slices.Clone(whole)
			callSaving(people, list)
			if !slices.Equal(whole, before) {
				t.Fatal("an argument is changed:", people, before, whole)
			}
		}
	}
}

func TestRoomBehindGroupsIsNotRead(t *testing.T) {
	room := []int{1, 2, 4, 5, 6, 6, -1}
	for size := 1; size <= 4; size++ {
		results, oks := callSaving(7, room[:size])
		others, othersOK := callSaving(7, slices.Clone(room[:size]))
		if results != others || oks != othersOK {
			t.Error("the room behind a list is read:", size, results, others, oks, othersOK)
		}
	}
	if _, oks := callSaving(7, room[:0]); oks != [3]bool{} {
		t.Error("the room behind an empty list is read:", oks)
	}
}

func TestSavingListsAreAlike(t *testing.T) {
	for i, first := range callLists(6, 5, 4) {
		kept := slices.Clone(first)
		overwrite(first)
		if second := callLists(6, 5, 4)[i]; len(kept) == 0 || !slices.Equal(second, kept) {
			t.Error("a second call gives something else:", i, kept, second)
		}
	}
}

// TestSavingNumbersAreAlike: steps are kept in a map, whose order must not show.
func TestSavingNumbersAreAlike(t *testing.T) {
	for range 30 {
		for _, list := range [][]int{{0}, {3}, {1, 4, 6}, {0, 2, 5, 7}} {
			results, oks := callSaving(8, list)
			others, othersOK := callSaving(8, list)
			if results != others || oks != othersOK {
				t.Error("a second call gives something else:", list, results, others, oks, othersOK)
			}
		}
		n, _ := impl.NextStepFor(8, 3, 500)
		m, _ := impl.NextStepFor(8, 3, 500)
		wantNumber(t, "NextStepFor again", n, true, m)
	}
}
