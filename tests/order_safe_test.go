package tests

import (
	"math"
	"slices"
	"testing"

	"loop.example/g01295/impl"
)

// callOrders calls all functions of the chapter that take lists, and returns all lists of their results, the cycles last.
func callOrders(a, b []int, by int) [][]int {
	impl.IsOrder(a)
	impl.StepOfOrder(a)
	impl.IsCountedOut(a)
	impl.SignOfOrder(a)
	impl.PowerOfOrder(a)
	impl.RankOfOrder(a)
	rest, _ := impl.RemaindersOf(a)
	order, _ := impl.OrderOfRemainders(a)
	joined, _ := impl.JoinOrders(a, b)
	undone, _ := impl.UndoOrder(a)
	turned, _ := impl.TurnedOrder(a, by)
	cycles, _ := impl.CyclesOfOrder(a)
	return append([][]int{rest, order, joined, undone, turned}, cycles...)
}

// ordersAndOthers are lists that are orders, lists of remainders, or neither.
func ordersAndOthers() [][]int {
	lists := append(noOrders(), permutations(upTo(3))...)
	for people := 1; people <= impl.MaxOrdered; people++ {
		lists = append(lists, upTo(people), reversed(upTo(people)), someOrder(people, 5), even(people, 0))
	}
	return lists
}

func TestOrdersNeverPanic(t *testing.T) {
	lists := ordersAndOthers()
	for _, a := range lists {
		for _, b := range lists {
			impl.JoinOrders(a, b)
		}
		for _, by := range extremes {
			callOrders(a, a, by)
		}
	}
	for _, a := range append([]int{5, 6, 8, 9, 11, 12, 13}, extremes...) {
		impl.CountOrders(a)
		impl.AllOrders(a)
		for _, b := range append([]int{math.MaxInt / 2, factorial(12) - 1, factorial(12)}, extremes...) {
			impl.OrderOfRank(a, b)
			impl.StepsWithFixed(a, b)
			callOrders([]int{a, b}, []int{b, a}, 1)
			callOrders([]int{a, 1, b}, []int{0, 1, 2}, a)
		}
	}
}

func TestOrdersStayAsTheyAre(t *testing.T) {
	for _, given := range ordersAndOthers() {
		a, wholeA := withRoom(given)
		b, wholeB := withRoom(given)
		beforeA, beforeB := slices.Clone(wholeA), slices.Clone(wholeB)
		for _, list := range append(callOrders(a, b, 0), callOrders(a, a, len(a)-1)...) {
			overwrite(list)
			_ = append(list, -77)
		}
		if !slices.Equal(wholeA, beforeA) || !slices.Equal(wholeB, beforeB) {
			t.Fatal("an argument is changed:", beforeA[:min(len(beforeA), 30)])
		}
	}
}

func TestRoomBehindOrdersIsNotRead(t *testing.T) {
	room := []int{2, 0, 1, 0, 5, 4}
	for size := range 4 {
		lists := callOrders(room[:size], room[:size], 1)
		others := callOrders(slices.Clone(room[:size]), slices.Clone(room[:size]), 1)
		if !slices.EqualFunc(lists, others, slices.Equal[[]int]) {
			t.Error("the room behind a list is read:", size, lists, others)
		}
	}
}

func TestOrderCallsAreAlike(t *testing.T) {
	for _, order := range manyOrders() {
		kept := callOrders(order, order, len(order)-1)
		for i, list := range callOrders(order, order, len(order)-1) {
			overwrite(list)
			if again := callOrders(order, order, len(order)-1); !slices.EqualFunc(again, kept, slices.Equal[[]int]) {
				t.Error("a second call gives something else:", order, i, kept, again)
			}
		}
	}
	for rank := range factorial(4) {
		first, _ := impl.OrderOfRank(4, rank)
		kept := slices.Clone(first)
		overwrite(first)
		second, ok := impl.OrderOfRank(4, rank)
		wantList(t, "OrderOfRank again", second, ok, kept)
	}
}

// wantApart wants the lists that f returns to stay as they are if one of them is overwritten or appended to.
func wantApart(t *testing.T, name string, f func() ([][]int, bool)) {
	t.Helper()
	want, _ := f()
	for i := range want {
		lists, _ := f()
		_ = append(lists[i], -77, -77, -77)
		overwrite(lists[i])
		for j, list := range lists {
			if j != i && !slices.Equal(list, want[j]) {
				t.Error(name, "a list changes with another one:", i, j, list, want[j])
			}
		}
	}
}

func TestListsOfOrdersShareNothing(t *testing.T) {
	for people := 1; people <= impl.MaxListed; people++ {
		wantApart(t, "AllOrders", func() ([][]int, bool) { return impl.AllOrders(people) })
	}
	for _, order := range manyOrders() {
		wantApart(t, "CyclesOfOrder", func() ([][]int, bool) { return impl.CyclesOfOrder(order) })
	}
}

func TestJoinedWithItself(t *testing.T) {
	for _, order := range manyOrders() {
		list, whole := withRoom(order)
		before := slices.Clone(whole)
		joined, ok := impl.JoinOrders(list, list)
		wantList(t, "JoinOrders with itself", joined, ok, follow(order, order))
		overwrite(joined)
		if !slices.Equal(whole, before) {
			t.Error("an argument is changed:", before, whole)
		}
	}
}

// TestNothingBehindJoinedOrders: the people whom an order does not have are not handed out with it.
func TestNothingBehindJoinedOrders(t *testing.T) {
	for _, order := range manyOrders() {
		joined, _ := impl.JoinOrders(order, order)
		behind := joined[len(joined):cap(joined)]
		wantList(t, "what is behind a joined order", behind, true, even(len(behind), 0))
	}
}
