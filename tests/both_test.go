package tests

import (
	"fmt"
	"math"
	"slices"
	"testing"

	"loop.example/g01295/impl"
)

// walkers tell who is gone from a circle in which they walk from person to person; way is 1 forward and -1 backward.
type walkers []bool

// choose counts one person after the other, from a place on at which there may be nobody left.
func (gone walkers) choose(at, step, way int) int {
	people := len(gone)
	if step > 3*people {
		left := 0
		for _, g := range gone {
			if !g {
				left++
			}
		}
		// Whole ways around the circle change nothing.
		step = (step-1)%left + 1
	}
	for counted := 0; ; at = (at + way + people) % people {
		if gone[at] {
			continue
		}
		if counted++; counted == step {
			return at
		}
	}
}

// walkForthAndBack counts literally, by a step forth and a step back in turn.
func walkForthAndBack(people, forth, back int) []int {
	gone := make(walkers, people)
	order := []int{}
	at, way, step, other := 0, 1, forth, back
	for len(order) < people {
		out := gone.choose(at, step, way)
		gone[out] = true
		order = append(order, out)
		way, step, other = -way, other, step
		at = (out + way + people) % people
	}
	return order
}

// walkTwo counts literally from both ends.
func walkTwo(people, forth, back int) [][]int {
	gone := make(walkers, people)
	rounds := [][]int{}
	forward, backward := 0, people-1
	for slices.Contains(gone, false) {
		one := gone.choose(forward, forth, 1)
		other := gone.choose(backward, back, -1)
		gone[one], gone[other] = true, true
		if one == other {
			rounds = append(rounds, []int{one})
		} else {
			rounds = append(rounds, []int{one, other})
		}
		forward, backward = (one+1)%people, (other-1+people)%people
	}
	return rounds
}

// loners returns those who are alone in their rounds.
func loners(rounds [][]int) []int {
	alone := []int{}
	for _, round := range rounds {
		if len(round) == 1 {
			alone = append(alone, round[0])
		}
	}
	return alone
}

// walkedPeople and walkedSteps are numbers up to the most ones.
var walkedPeople = []int{1, 2, 3, 4, 5, 6, 7, 10, 13, 20, 21, 64, 199, 200}

var walkedSteps = []int{1, 2, 3, 4, 5, 6, 7, 10, 19, 21, 64, 199, 200, 201, 1000, 999999, 1000000}

// eachBoth calls f for all pairs of steps of small circles, and for some of all others.
func eachBoth(f func(people, forth, back int)) {
	for people := 1; people <= 9; people++ {
		for forth := 1; forth <= 12; forth++ {
			for back := 1; back <= 12; back++ {
				f(people, forth, back)
			}
		}
	}
	for _, people := range walkedPeople {
		for _, forth := range walkedSteps {
			for _, back := range walkedSteps {
				f(people, forth, back)
			}
		}
	}
}

// eachTurning calls f for all steps of small circles, and for some of all others.
func eachTurning(f func(people, step int)) {
	for people := 1; people <= 12; people++ {
		for step := 1; step <= 30; step++ {
			f(people, step)
		}
	}
	for _, people := range walkedPeople {
		for _, step := range walkedSteps {
			f(people, step)
		}
	}
}

func wantRounds(t *testing.T, name string, got [][]int, ok bool, want [][]int) {
	t.Helper()
	if !ok || !slices.EqualFunc(got, want, slices.Equal[[]int]) {
		t.Errorf("%s: got %v, %v, want %v, true", name, got, ok, want)
	}
}

func failsRounds(t *testing.T, name string, got [][]int, ok bool) {
	t.Helper()
	if ok || len(got) != 0 {
		t.Errorf("%s: got %v, %v, want a failure without a value", name, got, ok)
	}
}

// wantAll wants a list that has each of so many people once.
func wantAll(t *testing.T, name string, list []int, people int) {
	t.Helper()
	wantList(t, "people of "+name, slices.Sorted(slices.Values(list)), true, upTo(people))
}

func TestBothExample(t *testing.T) {
	list, ok := impl.TurningOrder(5, 2)
	wantList(t, "TurningOrder", list, ok, []int{1, 4, 2, 3, 0})
	rounds, ok := impl.TwoCount(10, 4, 3)
	wantRounds(t, "TwoCount", rounds, ok, [][]int{{3, 7}, {8, 4}, {2, 0}, {1, 5}, {9}, {6}})
	list, ok = impl.ChosenByBoth(10, 4, 3)
	wantList(t, "ChosenByBoth", list, ok, []int{9, 6})
	n, ok := impl.MirrorPerson(10, 3)
	wantNumber(t, "MirrorPerson", n, ok, 6)
}

func TestBothLimits(t *testing.T) {
	if impl.MaxMet != 20 {
		t.Error("limits:", impl.MaxMet)
	}
}

// TestBothByHand has what was counted on paper.
func TestBothByHand(t *testing.T) {
	list, ok := impl.ForthAndBack(5, 2, 3)
	wantList(t, "ForthAndBack of 5 by 2 and 3", list, ok, []int{1, 3, 0, 4, 2})
	list, ok = impl.TurningOrder(5, 1)
	wantList(t, "TurningOrder of 5 by 1", list, ok, []int{0, 4, 1, 3, 2})
	list, ok = impl.TurningTable(5, 3)
	wantList(t, "TurningTable of 5 up to 3", list, ok, []int{2, 0, 0})
	list, ok = impl.TurningOrder(3, impl.MaxStep)
	wantList(t, "TurningOrder of 3 by MaxStep", list, ok, []int{0, 1, 2})
	rounds, ok := impl.TwoCount(3, impl.MaxStep, impl.MaxStep)
	wantRounds(t, "TwoCount of 3 by MaxStep", rounds, ok, [][]int{{0, 2}, {1}})
	list, ok = impl.LastTogether(4, 1, 1)
	wantList(t, "LastTogether of 4 by 1 and 1", list, ok, []int{1, 2})
	forth, back, ok := impl.StepsToMeet(4, 1)
	if !ok || forth != 2 || back != 3 {
		t.Error("StepsToMeet of 4 and 1:", forth, back, ok)
	}
	list, ok = impl.StepsForthSame(3, 6)
	wantList(t, "StepsForthSame of 3 up to 6", list, ok, nil)
}

func TestBothOfOneAlone(t *testing.T) {
	for _, forth := range walkedSteps {
		for _, back := range walkedSteps {
			list, ok := impl.ForthAndBack(1, forth, back)
			wantList(t, "ForthAndBack of one", list, ok, []int{0})
			rounds, ok := impl.TwoCount(1, forth, back)
			wantRounds(t, "TwoCount of one", rounds, ok, [][]int{{0}})
			list, ok = impl.ChosenByBoth(1, forth, back)
			wantList(t, "ChosenByBoth of one", list, ok, []int{0})
			n, ok := impl.RoundOfPerson(1, forth, back, 0)
			wantNumber(t, "RoundOfPerson of one", n, ok, 0)
		}
	}
	forth, back, ok := impl.StepsToMeet(1, 0)
	if !ok || forth != 1 || back != 1 {
		t.Error("StepsToMeet of one:", forth, back, ok)
	}
	list, ok := impl.StepsForthSame(1, 200)
	if !ok || len(list) != 200 {
		t.Error("StepsForthSame of one:", list, ok)
	}
}

func TestTurningOrders(t *testing.T) {
	eachTurning(func(people, step int) {
		name := fmt.Sprintf(" of %d by %d", people, step)
		order, ok := impl.TurningOrder(people, step)
		wantList(t, "TurningOrder"+name, order, ok, walkForthAndBack(people, step, step))
		wantAll(t, "TurningOrder"+name, order, people)
		same, ok := impl.ForthAndBack(people, step, step)
		wantList(t, "ForthAndBack by equal steps"+name, same, ok, order)
		last, ok := impl.TurningLast(people, step)
		wantNumber(t, "TurningLast"+name, last, ok, order[people-1])
		out, _ := impl.OrderOut(people, step)
		wantNumber(t, "first of TurningOrder"+name, order[0], true, out[0])
	})
}

func TestTurningTurns(t *testing.T) {
	for _, people := range walkedPeople {
		for _, step := range []int{1, 2, 7, people, people + 1, 1000, impl.MaxStep} {
			order, _ := impl.TurningOrder(people, step)
			for person := range people {
				name := fmt.Sprintf("TurningTurn of %d by %d and %d", people, step, person)
				turn, ok := impl.TurningTurn(people, step, person)
				wantNumber(t, name, turn, ok, slices.Index(order, person))
			}
		}
	}
}

func TestTurningTables(t *testing.T) {
	for _, people := range walkedPeople {
		lasts := []int{}
		for step := 1; step <= 200; step++ {
			last, _ := impl.TurningLast(people, step)
			lasts = append(lasts, last)
		}
		for _, steps := range []int{1, 2, 3, people, 199, 200} {
			list, ok := impl.TurningTable(people, steps)
			wantList(t, fmt.Sprintf("TurningTable of %d up to %d", people, steps), list, ok, lasts[:steps])
		}
	}
}

func TestOrdersForthAndBack(t *testing.T) {
	eachBoth(func(people, forth, back int) {
		name := fmt.Sprintf(" of %d by %d and %d", people, forth, back)
		order, ok := impl.ForthAndBack(people, forth, back)
		wantList(t, "ForthAndBack"+name, order, ok, walkForthAndBack(people, forth, back))
		wantAll(t, "ForthAndBack"+name, order, people)
		last, ok := impl.LastOfBoth(people, forth, back)
		wantNumber(t, "LastOfBoth"+name, last, ok, order[people-1])
	})
}

func TestRoundsOfTwo(t *testing.T) {
	eachBoth(func(people, forth, back int) {
		name := fmt.Sprintf(" of %d by %d and %d", people, forth, back)
		rounds, ok := impl.TwoCount(people, forth, back)
		wantRounds(t, "TwoCount"+name, rounds, ok, walkTwo(people, forth, back))
		wantAll(t, "TwoCount"+name, slices.Concat(rounds...), people)
		list, ok := impl.ChosenByBoth(people, forth, back)
		wantList(t, "ChosenByBoth"+name, list, ok, loners(rounds))
		n, ok := impl.CountRoundsOfTwo(people, forth, back)
		wantNumber(t, "CountRoundsOfTwo"+name, n, ok, len(rounds))
		list, ok = impl.LastTogether(people, forth, back)
		wantList(t, "LastTogether"+name, list, ok, rounds[len(rounds)-1])
	})
}

func TestRoundsOfPersons(t *testing.T) {
	eachPerson := func(people, forth, back int) {
		rounds, _ := impl.TwoCount(people, forth, back)
		for person := range people {
			name := fmt.Sprintf("RoundOfPerson of %d by %d and %d, %d", people, forth, back, person)
			n, ok := impl.RoundOfPerson(people, forth, back, person)
			wantNumber(t, name, n, ok, slices.IndexFunc(rounds, func(r []int) bool { return slices.Contains(r, person) }))
		}
	}
	for people := 1; people <= 13; people++ {
		for forth := 1; forth <= 14; forth++ {
			for back := 1; back <= 14; back++ {
				eachPerson(people, forth, back)
			}
		}
	}
	for _, steps := range [][2]int{{1, 1}, {2, 3}, {200, 7}, {201, 200}, {impl.MaxStep, 1}, {999999, impl.MaxStep}} {
		eachPerson(199, steps[0], steps[1])
		eachPerson(200, steps[0], steps[1])
	}
}

// TestNobodyChosenByBoth: equal steps choose mirror persons, so that only one in the middle is chosen by both.
func TestNobodyChosenByBoth(t *testing.T) {
	for people := 2; people <= impl.MaxPeople; people += 2 {
		for _, step := range []int{1, 2, 7, impl.MaxStep} {
			list, ok := impl.ChosenByBoth(people, step, step)
			wantList(t, fmt.Sprintf("ChosenByBoth of %d by %d", people, step), list, ok, nil)
		}
	}
}

func TestMirrorPersons(t *testing.T) {
	for people := 1; people <= impl.MaxPeople; people++ {
		backwards := upTo(people)
		slices.Reverse(backwards)
		for person := range people {
			name := fmt.Sprintf("MirrorPerson of %d and %d", people, person)
			mirror, ok := impl.MirrorPerson(people, person)
			wantNumber(t, name, mirror, ok, backwards[person])
			again, ok := impl.MirrorPerson(people, mirror)
			wantNumber(t, name+" again", again, ok, person)
		}
	}
}

func TestEqualStepsChooseMirrorPersons(t *testing.T) {
	eachTurning(func(people, step int) {
		rounds, _ := impl.TwoCount(people, step, step)
		for _, round := range rounds {
			mirror, ok := impl.MirrorPerson(people, round[0])
			wantNumber(t, fmt.Sprintf("round %v of %d by %d", round, people, step), mirror, ok, round[len(round)-1])
		}
	})
}

// TestStepsToMeet also shows that everyone of up to MaxMet people is chosen by both for some steps, so that no valid call fails.
func TestStepsToMeet(t *testing.T) {
	for people := 1; people <= impl.MaxMet; people++ {
		first := map[int][2]int{}
		for forth := 1; forth <= people; forth++ {
			for back := 1; back <= people; back++ {
				for _, person := range loners(walkTwo(people, forth, back)) {
					if _, found := first[person]; !found {
						first[person] = [2]int{forth, back}
					}
				}
			}
		}
		for person := range people {
			name := fmt.Sprintf("StepsToMeet of %d and %d", people, person)
			want, found := first[person]
			if !found {
				t.Error("nothing lets both choose", people, person)
			}
			forth, back, ok := impl.StepsToMeet(people, person)
			if ok != found || forth != want[0] || back != want[1] {
				t.Errorf("%s: got %d, %d, %v, want %v, %v", name, forth, back, ok, want, found)
			}
			list, ok := impl.ChosenByBoth(people, forth, back)
			if !ok || !slices.Contains(list, person) {
				t.Error(name, "but ChosenByBoth are", list)
			}
		}
	}
}

func TestStepsForthSame(t *testing.T) {
	for _, people := range walkedPeople {
		for _, most := range []int{0, 1, 2, 3, people, 199, 200} {
			want := []int{}
			for step := 1; step <= most; step++ {
				order := walkForthAndBack(people, step, step)
				if order[people-1] == lastBy(people, step) {
					want = append(want, step)
				}
			}
			list, ok := impl.StepsForthSame(people, most)
			wantList(t, fmt.Sprintf("StepsForthSame of %d up to %d", people, most), list, ok, want)
		}
	}
}

// failsTurning wants all functions of counts that turn, by one step, to fail.
func failsTurning(t *testing.T, people, step int) {
	t.Helper()
	name := fmt.Sprintf(" of %d by %d", people, step)
	list, ok := impl.TurningOrder(people, step)
	failsList(t, "TurningOrder"+name, list, ok)
	n, ok := impl.TurningLast(people, step)
	failsNumber(t, "TurningLast"+name, n, ok)
	for _, person := range []int{0, people - 1} {
		n, ok = impl.TurningTurn(people, step, person)
		failsNumber(t, "TurningTurn"+name, n, ok)
	}
}

// failsBoth wants all functions of two steps to fail.
func failsBoth(t *testing.T, people, forth, back int) {
	t.Helper()
	name := fmt.Sprintf(" of %d by %d and %d", people, forth, back)
	list, ok := impl.ForthAndBack(people, forth, back)
	failsList(t, "ForthAndBack"+name, list, ok)
	n, ok := impl.LastOfBoth(people, forth, back)
	failsNumber(t, "LastOfBoth"+name, n, ok)
	rounds, ok := impl.TwoCount(people, forth, back)
	failsRounds(t, "TwoCount"+name, rounds, ok)
	list, ok = impl.ChosenByBoth(people, forth, back)
	failsList(t, "ChosenByBoth"+name, list, ok)
	n, ok = impl.CountRoundsOfTwo(people, forth, back)
	failsNumber(t, "CountRoundsOfTwo"+name, n, ok)
	list, ok = impl.LastTogether(people, forth, back)
	failsList(t, "LastTogether"+name, list, ok)
	for _, person := range []int{0, people - 1} {
		n, ok = impl.RoundOfPerson(people, forth, back, person)
		failsNumber(t, "RoundOfPerson"+name, n, ok)
	}
}

// failsUpTo wants all functions that go through the first steps to fail.
func failsUpTo(t *testing.T, people, steps int) {
	t.Helper()
	name := fmt.Sprintf(" of %d up to %d", people, steps)
	list, ok := impl.TurningTable(people, steps)
	failsList(t, "TurningTable"+name, list, ok)
	list, ok = impl.StepsForthSame(people, steps)
	failsList(t, "StepsForthSame"+name, list, ok)
}

// failsOne wants all functions of a person to fail.
func failsOne(t *testing.T, people, person int) {
	t.Helper()
	name := fmt.Sprintf(" of %d and %d", people, person)
	n, ok := impl.MirrorPerson(people, person)
	failsNumber(t, "MirrorPerson"+name, n, ok)
	failsMeeting(t, people, person)
	for _, step := range []int{1, 2, impl.MaxStep} {
		n, ok = impl.TurningTurn(people, step, person)
		failsNumber(t, "TurningTurn"+name, n, ok)
		n, ok = impl.RoundOfPerson(people, step, 3, person)
		failsNumber(t, "RoundOfPerson"+name, n, ok)
	}
}

func failsMeeting(t *testing.T, people, person int) {
	t.Helper()
	forth, back, ok := impl.StepsToMeet(people, person)
	if ok || forth != 0 || back != 0 {
		t.Errorf("StepsToMeet of %d and %d: got %d, %d, %v, want a failure without a value", people, person, forth, back, ok)
	}
}

func TestBothOfNoPeopleOrTooMany(t *testing.T) {
	for _, people := range []int{math.MinInt, math.MinInt + 1, -200, -1, 0, 201, 202, 1000000, math.MaxInt - 1, math.MaxInt} {
		for _, step := range []int{1, 2, 200, impl.MaxStep} {
			failsTurning(t, people, step)
			failsBoth(t, people, step, 1)
			failsBoth(t, people, 1, step)
		}
		for _, steps := range []int{1, 7, 200} {
			failsUpTo(t, people, steps)
		}
		list, ok := impl.StepsForthSame(people, 0)
		failsList(t, fmt.Sprintf("StepsForthSame of %d up to 0", people), list, ok)
		for _, person := range []int{math.MinInt, -1, 0, 1, 100, people - 1, math.MaxInt} {
			failsOne(t, people, person)
		}
	}
}

func TestBothByStepsOutOfRange(t *testing.T) {
	for _, people := range walkedPeople {
		for _, step := range []int{math.MinInt, math.MinInt + 1, -1000000, -1, 0, impl.MaxStep + 1, math.MaxInt - 1, math.MaxInt} {
			failsTurning(t, people, step)
			failsBoth(t, people, step, step)
			for _, other := range []int{1, 2, people, impl.MaxStep} {
				failsBoth(t, people, step, other)
				failsBoth(t, people, other, step)
			}
		}
	}
}

func TestTablesOutOfRange(t *testing.T) {
	for _, people := range walkedPeople {
		for _, steps := range []int{math.MinInt, math.MinInt + 1, -200, -1, 201, 202, impl.MaxStep, math.MaxInt - 1, math.MaxInt} {
			failsUpTo(t, people, steps)
		}
		list, ok := impl.TurningTable(people, 0)
		failsList(t, fmt.Sprintf("TurningTable of %d up to 0", people), list, ok)
	}
}

func TestPersonsOutOfTheCircle(t *testing.T) {
	for _, people := range walkedPeople {
		for _, person := range []int{math.MinInt, math.MinInt + 1, -people, -1, people, people + 1, 201, math.MaxInt - 1, math.MaxInt} {
			failsOne(t, people, person)
		}
	}
}

func TestTooManyToMeet(t *testing.T) {
	for _, people := range []int{21, 22, 100, 199, 200} {
		for person := range people {
			failsMeeting(t, people, person)
		}
	}
}
