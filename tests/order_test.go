package tests

import (
	"fmt"
	"math"
	"slices"
	"testing"

	"loop.example/g01295/impl"
)

// permutations returns all orders of a list's numbers, in lexicographic order if the list is increasing.
func permutations(list []int) [][]int {
	if len(list) == 0 {
		return [][]int{{}}
	}
	all := [][]int{}
	for i, first := range list {
		for _, others := range permutations(slices.Concat(list[:i], list[i+1:])) {
			all = append(all, append([]int{first}, others...))
		}
	}
	return all
}

// factorial is how many orders so many people have.
func factorial(people int) int {
	product := 1
	for n := 2; n <= people; n++ {
		product *= n
	}
	return product
}

// someOrder returns an order that follows a rule without much order.
func someOrder(people, seed int) []int {
	keys := someCounts(people, 9999, seed)
	order := upTo(people)
	slices.SortStableFunc(order, func(a, b int) int { return keys[a] - keys[b] })
	return order
}

func reversed(list []int) []int {
	back := slices.Clone(list)
	slices.Reverse(back)
	return back
}

// manyOrders are all orders of 1 to 6 people, and some of 7 to MaxOrdered.
func manyOrders() [][]int {
	orders := [][]int{}
	for people := 1; people <= 6; people++ {
		orders = append(orders, permutations(upTo(people))...)
	}
	for people := 7; people <= impl.MaxOrdered; people++ {
		all := upTo(people)
		orders = append(orders, all, reversed(all), append(all[1:people:people], 0), append([]int{people - 1}, all[:people-1]...))
		for seed := range 40 {
			orders = append(orders, someOrder(people, seed), cutOut(all, seed*seed+1))
		}
	}
	// Cycles of 3, 4 and 5: of 12 people none come back later.
	return append(orders, []int{1, 2, 0, 4, 5, 6, 3, 8, 9, 10, 11, 7})
}

// walkRemainders counts one person after the other, as the document says it.
func walkRemainders(order []int) []int {
	people := len(order)
	gone := make([]bool, people)
	rest := []int{}
	at := 0
	for turn, person := range order {
		counted := 0
		for ; ; at = (at + 1) % people {
			if !gone[at] {
				counted++
			}
			if at == person {
				break
			}
		}
		gone[person] = true
		rest = append(rest, counted%(people-turn))
	}
	return rest
}

// listsOfRemainders are all lists of remainders of so many people.
func listsOfRemainders(people int) [][]int {
	if people == 0 {
		return [][]int{{}}
	}
	all := [][]int{}
	for first := range people {
		for _, others := range listsOfRemainders(people - 1) {
			all = append(all, append([]int{first}, others...))
		}
	}
	return all
}

// leastSteps tells the least step of each order out of so many people.
func leastSteps(people int) map[string]int {
	steps := map[string]int{}
	for i, order := range tellPeriod(people).orders {
		if name := fmt.Sprint(order); steps[name] == 0 {
			steps[name] = i + 1
		}
	}
	return steps
}

// eachOrdered calls f for all numbers of people of orders.
func eachOrdered(f func(people int)) {
	for people := 1; people <= impl.MaxOrdered; people++ {
		f(people)
	}
}

func wantBool(t *testing.T, name string, got, ok, want bool) {
	t.Helper()
	if !ok || got != want {
		t.Errorf("%s: got %v, %v, want %v, true", name, got, ok, want)
	}
}

func TestOrderExample(t *testing.T) {
	list, ok := impl.RemaindersOf([]int{2, 0, 1})
	wantList(t, "RemaindersOf", list, ok, []int{0, 1, 0})
	n, ok := impl.StepOfOrder([]int{2, 0, 1})
	wantNumber(t, "StepOfOrder", n, ok, 3)
	n, ok = impl.StepOfOrder([]int{0, 2, 1})
	wantNumber(t, "StepOfOrder of 0, 2, 1", n, ok, 4)
	list, ok = impl.RemaindersOf([]int{0, 2, 1})
	wantList(t, "RemaindersOf 0, 2, 1", list, ok, []int{1, 0, 0})
	n, ok = impl.CountOrders(4)
	wantNumber(t, "CountOrders", n, ok, 12)
	wantNumber(t, "orders of 4", len(permutations(upTo(4))), true, 24)
	cycles, ok := impl.CyclesOfOrder([]int{2, 0, 1})
	wantRounds(t, "CyclesOfOrder", cycles, ok, [][]int{{0, 2, 1}})
	n, ok = impl.PowerOfOrder([]int{2, 0, 1})
	wantNumber(t, "PowerOfOrder", n, ok, 3)
	n, ok = impl.SignOfOrder([]int{2, 0, 1})
	wantNumber(t, "SignOfOrder", n, ok, 1)
	n, ok = impl.RankOfOrder([]int{2, 0, 1})
	wantNumber(t, "RankOfOrder", n, ok, 4)
}

func TestOrderLimits(t *testing.T) {
	if impl.MaxOrdered != 12 || impl.MaxListed != 5 {
		t.Error("limits:", impl.MaxOrdered, impl.MaxListed)
	}
}

// TestOrdersByHand has what was told on paper.
func TestOrdersByHand(t *testing.T) {
	order := []int{2, 5, 1, 6, 4, 0, 3}
	list, ok := impl.RemaindersOf(order)
	wantList(t, "RemaindersOf 7 by 3", list, ok, []int{3, 3, 3, 3, 0, 1, 0})
	n, ok := impl.StepOfOrder(order)
	wantNumber(t, "StepOfOrder of 7 by 3", n, ok, 3)
	cycles, ok := impl.CyclesOfOrder(order)
	wantRounds(t, "CyclesOfOrder of 7 by 3", cycles, ok, [][]int{{0, 2, 1, 5}, {3, 6}, {4}})
	n, ok = impl.SignOfOrder(order)
	wantNumber(t, "SignOfOrder of 7 by 3", n, ok, 1)
	n, ok = impl.PowerOfOrder(order)
	wantNumber(t, "PowerOfOrder of 7 by 3", n, ok, 4)
	list, ok = impl.UndoOrder(order)
	wantList(t, "UndoOrder of 7 by 3", list, ok, []int{5, 2, 0, 6, 4, 1, 3})
	list, ok = impl.JoinOrders([]int{1, 2, 0}, []int{0, 2, 1})
	wantList(t, "JoinOrders", list, ok, []int{1, 0, 2})
	list, ok = impl.JoinOrders([]int{0, 2, 1}, []int{1, 2, 0})
	wantList(t, "JoinOrders the other way", list, ok, []int{2, 1, 0})
	list, ok = impl.TurnedOrder([]int{2, 0, 1}, 1)
	wantList(t, "TurnedOrder", list, ok, []int{0, 1, 2})
	all, ok := impl.AllOrders(3)
	wantRounds(t, "AllOrders of 3", all, ok, [][]int{{0, 1, 2}, {0, 2, 1}, {1, 0, 2}, {1, 2, 0}, {2, 0, 1}, {2, 1, 0}})
	list, ok = impl.OrderOfRank(3, 4)
	wantList(t, "OrderOfRank 4 of 3", list, ok, []int{2, 0, 1})
	n, ok = impl.StepsWithFixed(3, 1)
	wantNumber(t, "StepsWithFixed of 3 and 1", n, ok, 3)
}

func TestOrderOfOneAlone(t *testing.T) {
	one := []int{0}
	list, ok := impl.RemaindersOf(one)
	wantList(t, "RemaindersOf one", list, ok, one)
	list, ok = impl.OrderOfRemainders(one)
	wantList(t, "OrderOfRemainders of one", list, ok, one)
	n, ok := impl.StepOfOrder(one)
	wantNumber(t, "StepOfOrder of one", n, ok, 1)
	all, ok := impl.AllOrders(1)
	wantRounds(t, "AllOrders of one", all, ok, [][]int{{0}})
	cycles, ok := impl.CyclesOfOrder(one)
	wantRounds(t, "CyclesOfOrder of one", cycles, ok, [][]int{{0}})
	n, ok = impl.PowerOfOrder(one)
	wantNumber(t, "PowerOfOrder of one", n, ok, 1)
	list, ok = impl.OrderOfRank(1, 0)
	wantList(t, "OrderOfRank of one", list, ok, one)
	list, ok = impl.TurnedOrder(one, 0)
	wantList(t, "TurnedOrder of one", list, ok, one)
	for fixed, want := range []int{0, 1} {
		n, ok = impl.StepsWithFixed(1, fixed)
		wantNumber(t, fmt.Sprint("StepsWithFixed of one and ", fixed), n, ok, want)
	}
}

func TestRemaindersTellOrders(t *testing.T) {
	for _, order := range manyOrders() {
		name := fmt.Sprint(" of ", order)
		rest, ok := impl.RemaindersOf(order)
		wantList(t, "RemaindersOf"+name, rest, ok, walkRemainders(order))
		again, ok := impl.OrderOfRemainders(rest)
		wantList(t, "OrderOfRemainders of RemaindersOf"+name, again, ok, order)
	}
}

func TestOrdersTellRemainders(t *testing.T) {
	lists := [][]int{}
	for people := 1; people <= 6; people++ {
		lists = append(lists, listsOfRemainders(people)...)
	}
	eachOrdered(func(people int) {
		most := reversed(upTo(people))
		least := even(people, 0)
		mixed := []int{}
		for turn, some := range someCounts(people, 9999, people) {
			mixed = append(mixed, some%(people-turn))
		}
		lists = append(lists, most, least, mixed)
	})
	for _, rest := range lists {
		order, ok := impl.OrderOfRemainders(rest)
		name := fmt.Sprintf("%v of %v", order, rest)
		wantBool(t, "OrderOfRemainders "+name, impl.IsOrder(order), ok, true)
		again, ok := impl.RemaindersOf(order)
		wantList(t, "RemaindersOf "+name, again, ok, rest)
	}
}

// TestRemaindersOfSteps: each step with an order out, however great, leaves its remainders.
func TestRemaindersOfSteps(t *testing.T) {
	eachOrdered(func(people int) {
		for _, step := range []int{1, 2, 3, people, people + 1, 59, 60, 27719, 27720, 27721, 999999, impl.MaxStep} {
			want := []int{}
			for m := people; m >= 1; m-- {
				want = append(want, step%m)
			}
			order, _ := impl.OrderOut(people, step)
			rest, ok := impl.RemaindersOf(order)
			wantList(t, fmt.Sprintf("RemaindersOf %d by %d", people, step), rest, ok, want)
		}
	})
}

func TestStepsOfOrdersOut(t *testing.T) {
	eachOrdered(func(people int) {
		for i, order := range tellPeriod(people).orders {
			n, ok := impl.StepOfOrder(order)
			wantNumber(t, fmt.Sprint("StepOfOrder of ", order), n, ok, i+1)
		}
	})
}

func TestStepsOfOrders(t *testing.T) {
	steps := map[int]map[string]int{}
	eachOrdered(func(people int) { steps[people] = leastSteps(people) })
	noSteps := 0
	for _, order := range manyOrders() {
		name := fmt.Sprint(order)
		want := steps[len(order)][name]
		counted, ok := impl.IsCountedOut(order)
		wantBool(t, "IsCountedOut of "+name, counted, ok, want > 0)
		n, ok := impl.StepOfOrder(order)
		if want == 0 {
			noSteps++
			failsNumber(t, "StepOfOrder of "+name, n, ok)
			continue
		}
		wantNumber(t, "StepOfOrder of "+name, n, ok, want)
		out, ok := impl.OrderOut(len(order), n)
		wantList(t, "OrderOut by StepOfOrder of "+name, out, ok, order)
	}
	if noSteps == 0 {
		t.Error("no order was by no step")
	}
}

func TestOrdersByNoStep(t *testing.T) {
	for _, order := range [][]int{{0, 2, 1, 3}, {1, 2, 3, 0}, {1, 0, 2, 3, 4}} {
		if leastSteps(len(order))[fmt.Sprint(order)] != 0 {
			t.Fatal("there is a step:", order)
		}
		n, ok := impl.StepOfOrder(order)
		failsNumber(t, fmt.Sprint("StepOfOrder of ", order), n, ok)
		counted, ok := impl.IsCountedOut(order)
		wantBool(t, fmt.Sprint("IsCountedOut of ", order), counted, ok, false)
	}
}

// TestStepOfWholePeriod: remainders of 0 alone are those of the period, as there is no step 0.
func TestStepOfWholePeriod(t *testing.T) {
	eachOrdered(func(people int) {
		order, _ := impl.OrderOfRemainders(even(people, 0))
		n, ok := impl.StepOfOrder(order)
		wantNumber(t, fmt.Sprint("StepOfOrder by a whole period of ", people), n, ok, leastPeriod(people))
		n, ok = impl.StepOfOrder(upTo(people))
		wantNumber(t, fmt.Sprint("StepOfOrder of everybody at the turn of ", people), n, ok, 1)
	})
}

func TestCountsOfOrders(t *testing.T) {
	eachOrdered(func(people int) {
		name := fmt.Sprint("CountOrders of ", people)
		n, ok := impl.CountOrders(people)
		wantNumber(t, name, n, ok, len(leastSteps(people)))
		period, ok := impl.PeriodOfSteps(people)
		wantNumber(t, name+" and PeriodOfSteps", n, ok, period)
	})
	for people := 1; people <= 6; people++ {
		out := 0
		for _, order := range permutations(upTo(people)) {
			if counted, _ := impl.IsCountedOut(order); counted {
				out++
			}
		}
		n, ok := impl.CountOrders(people)
		wantNumber(t, fmt.Sprint("orders out of ", people), n, ok, out)
	}
}

func TestListsOfAllOrders(t *testing.T) {
	for people := 1; people <= impl.MaxListed; people++ {
		steps := leastSteps(people)
		want := slices.DeleteFunc(permutations(upTo(people)), func(order []int) bool { return steps[fmt.Sprint(order)] == 0 })
		all, ok := impl.AllOrders(people)
		wantRounds(t, fmt.Sprint("AllOrders of ", people), all, ok, want)
		n, ok := impl.CountOrders(people)
		wantNumber(t, fmt.Sprint("AllOrders and CountOrders of ", people), len(all), ok, n)
	}
}

func TestJoinedOrders(t *testing.T) {
	join := func(a, b []int) {
		list, ok := impl.JoinOrders(a, b)
		wantList(t, fmt.Sprintf("JoinOrders %v and %v", a, b), list, ok, follow(a, b))
		one, _ := impl.SignOfOrder(a)
		other, _ := impl.SignOfOrder(b)
		sign, ok := impl.SignOfOrder(list)
		wantNumber(t, fmt.Sprintf("SignOfOrder of %v and %v joined", a, b), sign, ok, one*other)
	}
	for people := 1; people <= 5; people++ {
		for _, a := range permutations(upTo(people)) {
			for _, b := range permutations(upTo(people)) {
				join(a, b)
			}
		}
	}
	orders := manyOrders()
	for i, a := range orders {
		for _, b := range orders[i:min(i+20, len(orders))] {
			if len(a) == len(b) {
				join(a, b)
				join(b, a)
			}
		}
	}
}

func TestUndoneOrders(t *testing.T) {
	for _, order := range manyOrders() {
		name := fmt.Sprint(" of ", order)
		undone, ok := impl.UndoOrder(order)
		wantBool(t, "UndoOrder"+name, impl.IsOrder(undone), ok, true)
		for turn, person := range order {
			wantNumber(t, "UndoOrder"+name, undone[person], true, turn)
		}
		list, ok := impl.JoinOrders(order, undone)
		wantList(t, "JoinOrders of it and UndoOrder"+name, list, ok, upTo(len(order)))
		list, ok = impl.JoinOrders(undone, order)
		wantList(t, "JoinOrders of UndoOrder"+name+" and it", list, ok, upTo(len(order)))
		again, ok := impl.UndoOrder(undone)
		wantList(t, "UndoOrder of UndoOrder"+name, again, ok, order)
	}
}

func TestCyclesOfOrders(t *testing.T) {
	for _, order := range manyOrders() {
		name := fmt.Sprint("CyclesOfOrder of ", order)
		cycles, ok := impl.CyclesOfOrder(order)
		wantBool(t, name, len(cycles) > 0, ok, true)
		wantAll(t, name, slices.Concat(cycles...), len(order))
		before := -1
		for _, cycle := range cycles {
			if slices.Min(cycle) != cycle[0] || cycle[0] <= before {
				t.Error(name, "begin with other numbers:", cycles)
			}
			before = cycle[0]
			for i, number := range cycle {
				wantNumber(t, name, cycle[(i+1)%len(cycle)], true, order[number])
			}
		}
	}
}

// TestSignsOfOrders counts pairs that stand the other way round: each swap of neighbours makes one more or one less.
func TestSignsOfOrders(t *testing.T) {
	for _, order := range manyOrders() {
		want := 1
		for i, person := range order {
			for _, other := range order[i+1:] {
				if other < person {
					want = -want
				}
			}
		}
		n, ok := impl.SignOfOrder(order)
		wantNumber(t, fmt.Sprint("SignOfOrder of ", order), n, ok, want)
		cycles, _ := impl.CyclesOfOrder(order)
		for _, cycle := range cycles {
			if len(cycle)%2 == 0 {
				want = -want
			}
		}
		wantNumber(t, fmt.Sprint("cycles and sign of ", order), want, true, 1)
	}
}

func TestSwapsTurnSigns(t *testing.T) {
	eachOrdered(func(people int) {
		order := someOrder(people, people)
		sign, _ := impl.SignOfOrder(order)
		for i := range people {
			for j := range i {
				swapped := slices.Clone(order)
				swapped[i], swapped[j] = order[j], order[i]
				n, ok := impl.SignOfOrder(swapped)
				wantNumber(t, fmt.Sprint("SignOfOrder of ", swapped), n, ok, -sign)
			}
		}
		n, ok := impl.SignOfOrder(upTo(people))
		wantNumber(t, fmt.Sprint("SignOfOrder of everybody at the turn of ", people), n, ok, 1)
	})
}

func TestPowersOfOrders(t *testing.T) {
	greatest := 0
	for _, order := range manyOrders() {
		times := 1
		for joined := order; !slices.Equal(joined, upTo(len(order))); times++ {
			joined = follow(order, joined)
		}
		n, ok := impl.PowerOfOrder(order)
		wantNumber(t, fmt.Sprint("PowerOfOrder of ", order), n, ok, times)
		cycles, _ := impl.CyclesOfOrder(order)
		for _, cycle := range cycles {
			wantNumber(t, fmt.Sprint("PowerOfOrder and a cycle of ", order), n%len(cycle), ok, 0)
		}
		greatest = max(greatest, n)
	}
	wantNumber(t, "the greatest PowerOfOrder", greatest, true, 60)
	eachOrdered(func(people int) {
		n, ok := impl.PowerOfOrder(upTo(people))
		wantNumber(t, fmt.Sprint("PowerOfOrder of everybody at the turn of ", people), n, ok, 1)
	})
}

func TestRanksOfAllOrders(t *testing.T) {
	for people := 1; people <= 7; people++ {
		for rank, order := range permutations(upTo(people)) {
			n, ok := impl.RankOfOrder(order)
			wantNumber(t, fmt.Sprint("RankOfOrder of ", order), n, ok, rank)
			list, ok := impl.OrderOfRank(people, rank)
			wantList(t, fmt.Sprintf("OrderOfRank of %d and %d", people, rank), list, ok, order)
		}
	}
}

func TestRanksGoWithOrders(t *testing.T) {
	orders := manyOrders()
	for i, order := range orders {
		rank, ok := impl.RankOfOrder(order)
		wantBool(t, fmt.Sprint("RankOfOrder of ", order), rank < factorial(len(order)), ok, true)
		list, ok := impl.OrderOfRank(len(order), rank)
		wantList(t, fmt.Sprint("OrderOfRank of RankOfOrder of ", order), list, ok, order)
		for _, other := range orders[i:min(i+90, len(orders))] {
			if n, _ := impl.RankOfOrder(other); len(other) == len(order) && (n < rank) != (slices.Compare(other, order) < 0) {
				t.Error("ranks:", order, rank, other, n)
			}
		}
	}
}

func TestFirstAndLastRanks(t *testing.T) {
	eachOrdered(func(people int) {
		all := factorial(people)
		list, ok := impl.OrderOfRank(people, 0)
		wantList(t, fmt.Sprint("first of ", people), list, ok, upTo(people))
		list, ok = impl.OrderOfRank(people, all-1)
		wantList(t, fmt.Sprint("last of ", people), list, ok, reversed(upTo(people)))
		n, ok := impl.RankOfOrder(reversed(upTo(people)))
		wantNumber(t, fmt.Sprint("RankOfOrder of the last of ", people), n, ok, all-1)
		for _, rank := range []int{all, all + 1, all * 2, math.MaxInt - 1, math.MaxInt, -1, -all, math.MinInt, math.MinInt + 1} {
			list, ok = impl.OrderOfRank(people, rank)
			failsList(t, fmt.Sprintf("OrderOfRank of %d and %d", people, rank), list, ok)
		}
		for _, rank := range someCounts(30, 9999, people) {
			rank = rank * 47903 % all
			list, _ = impl.OrderOfRank(people, rank)
			n, ok = impl.RankOfOrder(list)
			wantNumber(t, fmt.Sprintf("RankOfOrder of OrderOfRank of %d", people), n, ok, rank)
		}
	})
}

func TestStepsWithThoseWhoStay(t *testing.T) {
	for people := 1; people <= 8; people++ {
		often := even(people+1, 0)
		for _, order := range tellPeriod(people).orders {
			fixed := 0
			for turn, person := range order {
				if turn == person {
					fixed++
				}
			}
			often[fixed]++
		}
		together := 0
		for fixed, want := range often {
			n, ok := impl.StepsWithFixed(people, fixed)
			wantNumber(t, fmt.Sprintf("StepsWithFixed of %d and %d", people, fixed), n, ok, want)
			together += n
		}
		wantNumber(t, fmt.Sprint("all steps of ", people), together, true, leastPeriod(people))
	}
}

func TestTurnedOrders(t *testing.T) {
	for _, order := range manyOrders() {
		people := len(order)
		for by := range people {
			name := fmt.Sprintf("TurnedOrder of %v and %d", order, by)
			want := []int{}
			for _, person := range order {
				for range by {
					person++
					if person == people {
						person = 0
					}
				}
				want = append(want, person)
			}
			list, ok := impl.TurnedOrder(order, by)
			wantList(t, name, list, ok, want)
			list, ok = impl.TurnedOrder(list, (people-by)%people)
			wantList(t, name+" turned back", list, ok, order)
		}
	}
}

// noOrders are lists that are no orders.
func noOrders() [][]int {
	lists := [][]int{
		nil, {}, {-1}, {1}, {12}, {math.MinInt}, {math.MaxInt}, {0, 0}, {1, 1}, {0, 2}, {1, 2}, {-1, 0}, {0, -1}, {1, -1}, {math.MinInt, 0}, {0, math.MaxInt},
		{0, 1, 1}, {0, 0, 2}, {2, 2, 2}, {1, 2, 3}, {0, 1, 3}, {0, 3, 1}, {-1, 1, 2}, {math.MaxInt, 0, math.MinInt},
		extremes, upTo(impl.MaxOrdered + 1), reversed(upTo(impl.MaxOrdered + 1)), upTo(1000000), even(1000000, 0), even(impl.MaxOrdered, 0),
	}
	for _, bad := range []int{math.MinInt, -1, 0, 5, 12, 13, math.MaxInt} {
		twice := upTo(impl.MaxOrdered)
		twice[11] = bad
		lists = append(lists, twice)
	}
	return lists
}

// failsOfOrder wants all functions of one order to fail.
func failsOfOrder(t *testing.T, list []int) {
	t.Helper()
	name := fmt.Sprint(" of ", list[:min(len(list), 30)])
	if impl.IsOrder(list) {
		t.Error("IsOrder", name)
	}
	rest, ok := impl.RemaindersOf(list)
	failsList(t, "RemaindersOf"+name, rest, ok)
	counted, ok := impl.IsCountedOut(list)
	if counted || ok {
		t.Error("IsCountedOut", name, counted, ok)
	}
	undone, ok := impl.UndoOrder(list)
	failsList(t, "UndoOrder"+name, undone, ok)
	cycles, ok := impl.CyclesOfOrder(list)
	failsRounds(t, "CyclesOfOrder"+name, cycles, ok)
	for _, by := range []int{math.MinInt, -1, 0, 1, len(list) - 1, math.MaxInt} {
		turned, ok := impl.TurnedOrder(list, by)
		failsList(t, "TurnedOrder"+name, turned, ok)
	}
	for _, f := range []func([]int) (int, bool){impl.StepOfOrder, impl.SignOfOrder, impl.PowerOfOrder, impl.RankOfOrder} {
		n, ok := f(list)
		failsNumber(t, "a number"+name, n, ok)
	}
	for _, other := range [][]int{list, upTo(len(list)), {0}, {1, 0, 2}, nil} {
		joined, ok := impl.JoinOrders(list, other)
		failsList(t, "JoinOrders"+name, joined, ok)
		joined, ok = impl.JoinOrders(other, list)
		failsList(t, "JoinOrders behind one"+name, joined, ok)
	}
}

func TestListsThatAreNoOrders(t *testing.T) {
	for _, list := range noOrders() {
		failsOfOrder(t, list)
	}
	for _, order := range manyOrders() {
		if !impl.IsOrder(order) {
			t.Error("no order:", order)
		}
	}
}

// TestAllListsOfFewNumbers: just those that are permutations are orders.
func TestAllListsOfFewNumbers(t *testing.T) {
	for a := -1; a <= 4; a++ {
		for b := -1; b <= 4; b++ {
			for c := -1; c <= 4; c++ {
				for d := -1; d <= 4; d++ {
					list := []int{a, b, c, d}
					want := slices.Equal(slices.Sorted(slices.Values(list)), upTo(4))
					wantBool(t, fmt.Sprint("IsOrder of ", list), impl.IsOrder(list), true, want)
				}
			}
		}
	}
}

func TestOrdersOfDifferentLengths(t *testing.T) {
	eachOrdered(func(people int) {
		eachOrdered(func(others int) {
			if people != others {
				list, ok := impl.JoinOrders(upTo(people), upTo(others))
				failsList(t, fmt.Sprintf("JoinOrders of %d and %d", people, others), list, ok)
			}
		})
	})
}

func TestRemaindersOutOfBounds(t *testing.T) {
	lists := [][]int{nil, {}, {-1}, {1}, even(impl.MaxOrdered+1, 0), reversed(upTo(impl.MaxOrdered + 1)), even(1000000, 0), extremes}
	eachOrdered(func(people int) {
		for turn := range people {
			for _, bad := range []int{math.MinInt, math.MinInt + 1, -people, -1, people - turn, people - turn + 1, impl.MaxOrdered, math.MaxInt - 1, math.MaxInt} {
				for _, good := range [][]int{even(people, 0), reversed(upTo(people))} {
					good[turn] = bad
					lists = append(lists, good)
				}
			}
		}
	})
	for _, rest := range lists {
		list, ok := impl.OrderOfRemainders(rest)
		failsList(t, fmt.Sprint("OrderOfRemainders of ", rest[:min(len(rest), 30)]), list, ok)
	}
}

func TestOrdersOfNoPeopleOrTooMany(t *testing.T) {
	for _, people := range []int{math.MinInt, math.MinInt + 1, -12, -1, 0, 13, 14, 200, 1000000, math.MaxInt - 1, math.MaxInt} {
		name := fmt.Sprint(" of ", people)
		n, ok := impl.CountOrders(people)
		failsNumber(t, "CountOrders"+name, n, ok)
		all, ok := impl.AllOrders(people)
		failsRounds(t, "AllOrders"+name, all, ok)
		for _, other := range []int{math.MinInt, -1, 0, 1, people - 1, people, math.MaxInt} {
			list, ok := impl.OrderOfRank(people, other)
			failsList(t, "OrderOfRank"+name, list, ok)
			n, ok = impl.StepsWithFixed(people, other)
			failsNumber(t, "StepsWithFixed"+name, n, ok)
		}
	}
	for people := impl.MaxListed + 1; people <= impl.MaxOrdered; people++ {
		all, ok := impl.AllOrders(people)
		failsRounds(t, fmt.Sprint("AllOrders of ", people), all, ok)
	}
}

func TestFixedOutOfRange(t *testing.T) {
	for people := 9; people <= impl.MaxOrdered; people++ {
		for fixed := -1; fixed <= people+1; fixed++ {
			n, ok := impl.StepsWithFixed(people, fixed)
			failsNumber(t, fmt.Sprintf("StepsWithFixed of %d and %d", people, fixed), n, ok)
		}
	}
	for people := 1; people <= 8; people++ {
		for _, fixed := range []int{math.MinInt, math.MinInt + 1, -people, -1, people + 1, people + 2, 9, 200, math.MaxInt - 1, math.MaxInt} {
			n, ok := impl.StepsWithFixed(people, fixed)
			failsNumber(t, fmt.Sprintf("StepsWithFixed of %d and %d", people, fixed), n, ok)
		}
	}
}

func TestTurnsOutOfRange(t *testing.T) {
	eachOrdered(func(people int) {
		for _, by := range []int{math.MinInt, math.MinInt + 1, -people, -1, people, people + 1, impl.MaxOrdered, math.MaxInt - 1, math.MaxInt} {
			list, ok := impl.TurnedOrder(upTo(people), by)
			failsList(t, fmt.Sprintf("TurnedOrder of %d and %d", people, by), list, ok)
		}
	})
}
