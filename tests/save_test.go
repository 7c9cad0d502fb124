package tests

import (
	"fmt"
	"math"
	"slices"
	"testing"

	"loop.example/g01295/impl"
)

// leastPeriod tries one number after the other, as the document says it.
func leastPeriod(people int) int {
	for n := 1; ; n++ {
		if !slices.ContainsFunc(upTo(people), func(i int) bool { return n%(i+1) != 0 }) {
			return n
		}
	}
}

// group tells people by bits.
type group uint

func groupOf(people []int) group {
	var g group
	for _, person := range people {
		g |= 1 << person
	}
	return g
}

func (g group) list() []int {
	people := []int{}
	for person := range impl.MaxSaved {
		if g>>person&1 == 1 {
			people = append(people, person)
		}
	}
	return people
}

// period is what counting out by all steps of a period tells of so many people: orders[0] is the one by 1.
type period struct {
	orders [][]int
	// The least step for each group that goes first or that is left, and how many steps leave it.
	goes   map[group]int
	leaves map[group]int
	often  map[group]int
}

// periods has what tellPeriod has told.
var periods = map[int]period{}

func tellPeriod(people int) period {
	if p, ok := periods[people]; ok {
		return p
	}
	p := period{goes: map[group]int{}, leaves: map[group]int{}, often: map[group]int{}}
	numbers, most := upTo(people), leastPeriod(people)
	for step := 1; step <= most; step++ {
		order := cutOut(numbers, step)
		p.orders = append(p.orders, order)
		for turns := range people + 1 {
			gone, left := groupOf(order[:turns]), groupOf(order[turns:])
			if p.goes[gone] == 0 {
				p.goes[gone] = step
			}
			if p.leaves[left] == 0 {
				p.leaves[left] = step
			}
			p.often[left]++
		}
	}
	periods[people] = p
	return p
}

// lastBy returns who is left, by however great a step.
func lastBy(people, step int) int { return cutOut(upTo(people), step)[people-1] }

// eachFew calls f for all numbers of people of whom a whole period is told.
func eachFew(f func(people int)) {
	for people := 1; people <= impl.MaxSaved; people++ {
		f(people)
	}
}

// tablePeople are numbers of people up to chapter 1's most ones.
var tablePeople = []int{1, 2, 3, 4, 5, 6, 7, 8, 11, 12, 13, 16, 41, 100, 199, 200}

// tableSteps are numbers of steps of which tables are told.
var tableSteps = []int{1, 2, 3, 10, 59, 60, 199, 200}

func wantFraction(t *testing.T, name string, over, under int, ok bool, wantOver, wantUnder int) {
	t.Helper()
	if !ok || over != wantOver || under != wantUnder {
		t.Errorf("%s: got %d/%d, %v, want %d/%d, true", name, over, under, ok, wantOver, wantUnder)
	}
}

func TestSaveExample(t *testing.T) {
	n, ok := impl.PeriodOfSteps(4)
	wantNumber(t, "PeriodOfSteps", n, ok, 12)
	list, ok := impl.LastTable(4, 4)
	wantList(t, "LastTable", list, ok, []int{3, 0, 0, 1})
	n, ok = impl.StepForLast(4, 2)
	wantNumber(t, "StepForLast", n, ok, 6)
	for i, want := range []int{2, 7, 5, 30} {
		n, ok = impl.StepForFriends(i + 1)
		wantNumber(t, fmt.Sprint("StepForFriends of ", i+1), n, ok, want)
	}
	list, ok = impl.LastOnes(7, 3, 2)
	wantList(t, "LastOnes", list, ok, []int{0, 3})
	list, ok = impl.SameOrderSteps(3, 2, 2)
	wantList(t, "SameOrderSteps", list, ok, []int{8, 14})
}

func TestSaveLimits(t *testing.T) {
	if impl.MaxSaved != 12 || impl.MaxFriends != 8 || impl.MaxTable != 200 {
		t.Error("limits:", impl.MaxSaved, impl.MaxFriends, impl.MaxTable)
	}
}

func TestPeriodsOfSteps(t *testing.T) {
	eachFew(func(people int) {
		n, ok := impl.PeriodOfSteps(people)
		wantNumber(t, fmt.Sprint("PeriodOfSteps of ", people), n, ok, leastPeriod(people))
	})
	n, ok := impl.PeriodOfSteps(1)
	wantNumber(t, "PeriodOfSteps of one", n, ok, 1)
	n, ok = impl.PeriodOfSteps(12)
	wantNumber(t, "PeriodOfSteps of 12", n, ok, 27720)
}

func TestOrdersComeAgainBehindAPeriod(t *testing.T) {
	eachFew(func(people int) {
		n, _ := impl.PeriodOfSteps(people)
		for _, step := range []int{1, 2, 3, people, n, 2*n + 5, impl.MaxStep - n} {
			order, _ := impl.OrderOut(people, step)
			list, ok := impl.OrderOut(people, step+n)
			wantList(t, fmt.Sprintf("OrderOut of %d by %d and a period more", people, step), list, ok, order)
		}
	})
}

// TestOrdersOfAPeriodDiffer: no number less than the period would do for all steps.
func TestOrdersOfAPeriodDiffer(t *testing.T) {
	eachFew(func(people int) {
		seen := map[string]bool{}
		n, _ := impl.PeriodOfSteps(people)
		for _, order := range tellPeriod(people).orders[:n] {
			seen[fmt.Sprint(order)] = true
		}
		wantNumber(t, fmt.Sprint("orders of ", people), len(seen), true, n)
	})
}

func TestTablesOfTheLast(t *testing.T) {
	for _, people := range tablePeople {
		counted := []int{}
		for step := 1; step <= impl.MaxTable; step++ {
			counted = append(counted, lastBy(people, step))
			last, ok := impl.LastLeft(people, step)
			wantNumber(t, fmt.Sprintf("LastLeft of %d by %d", people, step), last, ok, counted[step-1])
		}
		for _, steps := range tableSteps {
			list, ok := impl.LastTable(people, steps)
			wantList(t, fmt.Sprintf("LastTable of %d up to %d", people, steps), list, ok, counted[:steps])
		}
	}
}

func TestStepsForTheLast(t *testing.T) {
	eachFew(func(people int) {
		p := tellPeriod(people)
		lefts := []int{}
		together := 0
		for person := range people {
			name := fmt.Sprintf(" of %d and %d", people, person)
			n, ok := impl.CountForLast(people, person)
			wantNumber(t, "CountForLast"+name, n, ok, p.often[1<<person])
			together += n
			step, ok := impl.StepForLast(people, person)
			if n == 0 {
				failsNumber(t, "StepForLast"+name, step, ok)
				continue
			}
			wantNumber(t, "StepForLast"+name, step, ok, p.leaves[1<<person])
			last, ok := impl.LastLeft(people, step)
			wantNumber(t, "LastLeft by StepForLast"+name, last, ok, person)
			for lesser := 1; lesser < step; lesser++ {
				if last, _ := impl.LastLeft(people, lesser); last == person {
					t.Errorf("StepForLast%s is %d, but %d does it", name, step, lesser)
				}
			}
			lefts = append(lefts, person)
		}
		wantNumber(t, fmt.Sprint("all counts of ", people), together, true, leastPeriod(people))
		list, ok := impl.CanBeLeft(people)
		wantList(t, fmt.Sprint("CanBeLeft of ", people), list, ok, lefts)
	})
}

// TestEveryoneCanBeLeft: each one of so few people is left by some step, so that StepForLast and NextStepFor never fail for want of one.
func TestEveryoneCanBeLeft(t *testing.T) {
	eachFew(func(people int) {
		list, ok := impl.CanBeLeft(people)
		wantList(t, fmt.Sprint("CanBeLeft of ", people), list, ok, upTo(people))
	})
}

func TestGroupsThatAreSaved(t *testing.T) {
	eachFew(func(people int) {
		p := tellPeriod(people)
		for g := group(1); g < 1<<people; g++ {
			saved := g.list()
			name := fmt.Sprintf(" of %d and %v", people, saved)
			n, ok := impl.CountSaving(people, saved)
			wantNumber(t, "CountSaving"+name, n, ok, p.often[g])
			step, ok := impl.StepSaving(people, saved)
			if p.often[g] == 0 {
				failsNumber(t, "StepSaving"+name, step, ok)
				continue
			}
			wantNumber(t, "StepSaving"+name, step, ok, p.leaves[g])
			list, ok := impl.LastOnes(people, step, len(saved))
			wantList(t, "LastOnes by StepSaving"+name, list, ok, saved)
		}
	})
}

func TestGroupsThatGoFirst(t *testing.T) {
	eachFew(func(people int) {
		p := tellPeriod(people)
		for g := group(1); g < 1<<people; g++ {
			gone := g.list()
			name := fmt.Sprintf(" of %d and %v", people, gone)
			step, ok := impl.StepsFirstOut(people, gone)
			if p.goes[g] == 0 {
				failsNumber(t, "StepsFirstOut"+name, step, ok)
				continue
			}
			wantNumber(t, "StepsFirstOut"+name, step, ok, p.goes[g])
			order, _ := impl.OrderOut(people, step)
			first := order[:len(gone)]
			slices.Sort(first)
			wantList(t, "the first ones by StepsFirstOut"+name, first, ok, gone)
		}
	})
}

// TestGroupsThatNoStepSaves: the other ones can't be first then either.
func TestGroupsThatNoStepSaves(t *testing.T) {
	for _, c := range []struct {
		people int
		saved  []int
	}{
		{9, []int{1, 2, 3, 4, 7}}, {9, []int{1, 4, 5, 6, 7}}, {9, []int{0, 1, 4, 7, 8}},
		{12, []int{0, 1, 2, 3, 4, 6, 8, 10}}, {12, []int{0, 1, 3, 4, 5, 6, 11}}, {12, []int{1, 3, 5, 7, 8, 9, 10, 11}},
	} {
		name := fmt.Sprintf(" of %d and %v", c.people, c.saved)
		for i, order := range tellPeriod(c.people).orders {
			if groupOf(order[c.people-len(c.saved):]) == groupOf(c.saved) {
				t.Errorf("the step %d saves%s", i+1, name)
			}
		}
		n, ok := impl.StepSaving(c.people, c.saved)
		failsNumber(t, "StepSaving"+name, n, ok)
		n, ok = impl.CountSaving(c.people, c.saved)
		wantNumber(t, "CountSaving"+name, n, ok, 0)
		others := (group(1)<<c.people - 1 - groupOf(c.saved)).list()
		n, ok = impl.StepsFirstOut(c.people, others)
		failsNumber(t, "StepsFirstOut of the others"+name, n, ok)
	}
}

func TestAllAreSaved(t *testing.T) {
	eachFew(func(people int) {
		name := fmt.Sprint(" of all of ", people)
		n, ok := impl.StepSaving(people, upTo(people))
		wantNumber(t, "StepSaving"+name, n, ok, 1)
		n, ok = impl.CountSaving(people, upTo(people))
		wantNumber(t, "CountSaving"+name, n, ok, leastPeriod(people))
		n, ok = impl.StepsFirstOut(people, upTo(people))
		wantNumber(t, "StepsFirstOut"+name, n, ok, 1)
	})
}

func TestFriendsAreSaved(t *testing.T) {
	for i, want := range []int{2, 7, 5, 30, 169, 441, 1872, 7632} {
		friends := i + 1
		step, ok := impl.StepForFriends(friends)
		wantNumber(t, fmt.Sprint("StepForFriends of ", friends), step, ok, want)
		for tried := 1; tried <= step; tried++ {
			gone := cutOut(upTo(2*friends), tried)[:friends]
			if saved := slices.Min(gone) >= friends; saved != (tried == step) {
				t.Errorf("StepForFriends of %d is %d, but by %d first go %v", friends, step, tried, gone)
			}
		}
		if 2*friends <= impl.MaxSaved {
			n, ok := impl.StepSaving(2*friends, upTo(friends))
			wantNumber(t, fmt.Sprint("StepSaving of friends ", friends), n, ok, step)
		}
	}
}

func TestLastOnesToBeThere(t *testing.T) {
	for _, people := range tablePeople {
		for _, step := range []int{1, 2, 3, people, 1001, impl.MaxStep - 1, impl.MaxStep} {
			order := cutOut(upTo(people), step)
			for left := 1; left <= people; left++ {
				want := slices.Clone(order[people-left:])
				slices.Sort(want)
				list, ok := impl.LastOnes(people, step, left)
				wantList(t, fmt.Sprintf("LastOnes of %d by %d, %d", people, step, left), list, ok, want)
			}
			list, ok := impl.LastOnes(people, step, people)
			wantList(t, "LastOnes of all", list, ok, upTo(people))
			last, _ := impl.LastLeft(people, step)
			list, ok = impl.LastOnes(people, step, 1)
			wantList(t, "LastOnes, one left", list, ok, []int{last})
		}
	}
}

func TestBestPlacesToStand(t *testing.T) {
	for _, people := range tablePeople {
		for _, steps := range tableSteps {
			times := make([]int, people)
			for step := 1; step <= steps; step++ {
				last, _ := impl.LastLeft(people, step)
				times[last]++
			}
			want := []int{}
			for person, often := range times {
				if often == slices.Max(times) {
					want = append(want, person)
				}
			}
			list, ok := impl.BestPlaces(people, steps)
			wantList(t, fmt.Sprintf("BestPlaces of %d up to %d", people, steps), list, ok, want)
		}
	}
	list, ok := impl.BestPlaces(4, 4)
	wantList(t, "BestPlaces of 4 up to 4", list, ok, []int{0})
	list, ok = impl.BestPlaces(4, 2)
	wantList(t, "BestPlaces of 4 up to 2", list, ok, []int{0, 3})
	list, ok = impl.BestPlaces(1, 200)
	wantList(t, "BestPlaces of one", list, ok, []int{0})
	list, ok = impl.BestPlaces(200, 1)
	wantList(t, "BestPlaces of one step", list, ok, []int{199})
}

// lowest divides both by what divides them, trying one number after the other.
func lowest(over, under int) (int, int) {
	for d := under; d > 1; d-- {
		if over%d == 0 && under%d == 0 {
			return over / d, under / d
		}
	}
	return over, under
}

func TestMeanTurns(t *testing.T) {
	for _, people := range tablePeople {
		turns := make([][]int, people)
		for step := 1; step <= impl.MaxTable; step++ {
			for turn, person := range cutOut(upTo(people), step) {
				turns[person] = append(turns[person], turn)
			}
		}
		for person := range people {
			if people > 20 && person%50 > 0 && person < people-1 {
				continue
			}
			for _, steps := range tableSteps {
				sum := 0
				for _, turn := range turns[person][:steps] {
					sum += turn
				}
				wantOver, wantUnder := lowest(sum, steps)
				over, under, ok := impl.MeanTurn(people, person, steps)
				wantFraction(t, fmt.Sprintf("MeanTurn of %d and %d up to %d", people, person, steps), over, under, ok, wantOver, wantUnder)
			}
		}
	}
}

func TestMeanTurnsByHand(t *testing.T) {
	over, under, ok := impl.MeanTurn(1, 0, 200)
	wantFraction(t, "MeanTurn of one alone", over, under, ok, 0, 1)
	over, under, ok = impl.MeanTurn(200, 0, 1)
	wantFraction(t, "MeanTurn of the first one", over, under, ok, 0, 1)
	over, under, ok = impl.MeanTurn(200, 199, 1)
	wantFraction(t, "MeanTurn of the last one", over, under, ok, 199, 1)
	// By 1, 2 and 3 the order out is 0 1 2, 1 0 2 and 2 0 1.
	for person, want := range [][2]int{{2, 3}, {1, 1}, {4, 3}} {
		over, under, ok = impl.MeanTurn(3, person, 3)
		wantFraction(t, fmt.Sprint("MeanTurn of 3 and ", person), over, under, ok, want[0], want[1])
	}
}

func TestTurnsOfMeanTurn(t *testing.T) {
	for _, people := range []int{2, 5, 12, 40} {
		for _, person := range []int{0, 1, people - 1} {
			sum := 0
			for step := 1; step <= impl.MaxTable; step++ {
				turn, _ := impl.TurnOut(people, step, person)
				sum += turn
				over, under, ok := impl.MeanTurn(people, person, step)
				if !ok || over*step != sum*under {
					t.Errorf("MeanTurn of %d and %d up to %d: %d/%d, %v, not %d/%d", people, person, step, over, under, ok, sum, step)
				}
			}
		}
	}
}

// TestStepsOfTheSameOrder looks at the steps in between too, where a period is not too long.
func TestStepsOfTheSameOrder(t *testing.T) {
	eachFew(func(people int) {
		for _, step := range []int{1, 2, leastPeriod(people), leastPeriod(people) + 1, 999, impl.MaxStep - 1, impl.MaxStep} {
			order := cutOut(upTo(people), step)
			want := []int{}
			most := 20
			if people > 6 {
				most = 1
			}
			for tried := step + 1; len(want) < most; tried++ {
				if slices.Equal(cutOut(upTo(people), tried), order) {
					want = append(want, tried)
				}
			}
			name := fmt.Sprintf("SameOrderSteps of %d by %d", people, step)
			for count := 0; count <= most; count++ {
				list, ok := impl.SameOrderSteps(people, step, count)
				wantList(t, name, list, ok, want[:count])
			}
			list, ok := impl.SameOrderSteps(people, step, 20)
			for i, same := range list {
				wantNumber(t, name, same-step, ok, (i+1)*(want[0]-step))
				wantList(t, name, cutOut(upTo(people), same), ok, order)
			}
			wantNumber(t, name, len(list), ok, 20)
		}
	})
}

func TestSameOrdersByHand(t *testing.T) {
	list, ok := impl.SameOrderSteps(1, 5, 4)
	wantList(t, "SameOrderSteps of one", list, ok, []int{6, 7, 8, 9})
	list, ok = impl.SameOrderSteps(12, 1000000, 3)
	wantList(t, "SameOrderSteps behind MaxStep", list, ok, []int{1027720, 1055440, 1083160})
	list, ok = impl.SameOrderSteps(12, 1000000, 0)
	wantList(t, "SameOrderSteps of none", list, ok, nil)
}

func TestNextStepsForTheLast(t *testing.T) {
	eachFew(func(people int) {
		n := leastPeriod(people)
		for person := range people {
			for _, step := range []int{1, 2, 3, n, n + 1, 5*n + 2, 27719, 27720, 999999 - n, 999990, impl.MaxStep - 1, impl.MaxStep} {
				want := step + 1
				for lastBy(people, want) != person {
					want++
				}
				next, ok := impl.NextStepFor(people, person, step)
				wantNumber(t, fmt.Sprintf("NextStepFor of %d and %d behind %d", people, person, step), next, ok, want)
			}
		}
	})
}

// TestNextStepsOneByOne goes through all steps of a period, and beyond it.
func TestNextStepsOneByOne(t *testing.T) {
	for _, people := range []int{1, 2, 5, 7} {
		n := leastPeriod(people)
		for person := range people {
			first, _ := impl.StepForLast(people, person)
			steps := []int{first}
			for steps[len(steps)-1] <= 2*n {
				next, ok := impl.NextStepFor(people, person, steps[len(steps)-1])
				if !ok || next <= steps[len(steps)-1] {
					t.Fatal("NextStepFor goes not on:", people, person, steps, next, ok)
				}
				steps = append(steps, next)
			}
			want := []int{}
			for step := 1; step <= steps[len(steps)-1]; step++ {
				if last, _ := impl.LastLeft(people, step); last == person {
					want = append(want, step)
				}
			}
			wantList(t, fmt.Sprintf("NextStepFor of %d and %d again and again", people, person), steps, true, want)
		}
	}
}

// TestNextStepsMayBeGreat: a step that is told may be greater than MaxStep, the one it is told for may not.
func TestNextStepsMayBeGreat(t *testing.T) {
	for _, c := range [][4]int{
		{1, 0, 1000000, 1000001}, {2, 0, 1000000, 1000002}, {2, 1, 999999, 1000001}, {12, 3, 1000000, 1000038}, {9, 3, 1000000, 1000031},
	} {
		people, person, step, want := c[0], c[1], c[2], c[3]
		for tried := step + 1; tried <= impl.MaxStep; tried++ {
			if last, _ := impl.LastLeft(people, tried); last == person {
				t.Error("a step up to MaxStep leaves the person:", c)
			}
		}
		next, ok := impl.NextStepFor(people, person, step)
		wantNumber(t, fmt.Sprint("NextStepFor of ", c), next, ok, want)
		next, ok = impl.NextStepFor(people, person, impl.MaxStep+1)
		failsNumber(t, "NextStepFor behind MaxStep", next, ok)
	}
}

// failsOfFew wants all functions of a number of few people to fail, whatever else they are given.
func failsOfFew(t *testing.T, people int) {
	t.Helper()
	name := fmt.Sprint(" of ", people)
	n, ok := impl.PeriodOfSteps(people)
	failsNumber(t, "PeriodOfSteps"+name, n, ok)
	list, ok := impl.CanBeLeft(people)
	failsList(t, "CanBeLeft"+name, list, ok)
	for _, k := range []int{0, 1, 5, people - 1, people} {
		failsPerson(t, people, k)
		failsGroup(t, people, []int{k})
		list, ok = impl.SameOrderSteps(people, 1, k)
		failsList(t, "SameOrderSteps"+name, list, ok)
	}
	for _, saved := range [][]int{nil, {0, 1}, upTo(12), upTo(13)} {
		failsGroup(t, people, saved)
	}
}

// failsPerson wants all functions of few people and a person to fail.
func failsPerson(t *testing.T, people, person int) {
	t.Helper()
	name := fmt.Sprintf(" of %d and %d", people, person)
	n, ok := impl.StepForLast(people, person)
	failsNumber(t, "StepForLast"+name, n, ok)
	n, ok = impl.CountForLast(people, person)
	failsNumber(t, "CountForLast"+name, n, ok)
	for _, step := range []int{1, 7, impl.MaxStep} {
		n, ok = impl.NextStepFor(people, person, step)
		failsNumber(t, "NextStepFor"+name, n, ok)
	}
}

// failsGroup wants all functions of few people and a list to fail.
func failsGroup(t *testing.T, people int, list []int) {
	t.Helper()
	name := fmt.Sprintf(" of %d and a list of %d", people, len(list))
	n, ok := impl.StepSaving(people, list)
	failsNumber(t, "StepSaving"+name, n, ok)
	n, ok = impl.CountSaving(people, list)
	failsNumber(t, "CountSaving"+name, n, ok)
	n, ok = impl.StepsFirstOut(people, list)
	failsNumber(t, "StepsFirstOut"+name, n, ok)
}

// failsTable wants all functions of many people and a table of steps to fail.
func failsTable(t *testing.T, people, person, steps int) {
	t.Helper()
	name := fmt.Sprintf(" of %d, %d up to %d", people, person, steps)
	list, ok := impl.LastTable(people, steps)
	failsList(t, "LastTable"+name, list, ok)
	list, ok = impl.BestPlaces(people, steps)
	failsList(t, "BestPlaces"+name, list, ok)
	failsMean(t, people, person, steps)
}

func failsMean(t *testing.T, people, person, steps int) {
	t.Helper()
	over, under, ok := impl.MeanTurn(people, person, steps)
	if ok || over != 0 || under != 0 {
		t.Errorf("MeanTurn of %d and %d up to %d: got %d/%d, %v, want a failure without a value", people, person, steps, over, under, ok)
	}
}

func TestNoPeopleOrTooMany(t *testing.T) {
	for _, people := range []int{math.MinInt, math.MinInt + 1, -12, -1, 0, 13, 14, 16, 200, 201, math.MaxInt - 1, math.MaxInt} {
		failsOfFew(t, people)
	}
	for _, people := range []int{math.MinInt, -200, -1, 0, 201, 202, 1000000, math.MaxInt} {
		for _, steps := range []int{1, 7, 200} {
			for _, person := range []int{0, 1, people - 1} {
				failsTable(t, people, person, steps)
			}
			list, ok := impl.LastOnes(people, steps, 1)
			failsList(t, fmt.Sprint("LastOnes of ", people), list, ok)
			list, ok = impl.LastOnes(people, steps, people)
			failsList(t, fmt.Sprint("LastOnes of all of ", people), list, ok)
		}
	}
}

func TestPersonsWhoAreNotThere(t *testing.T) {
	eachFew(func(people int) {
		for _, person := range []int{math.MinInt, math.MinInt + 1, -people, -1, people, people + 1, 200, math.MaxInt - 1, math.MaxInt} {
			failsPerson(t, people, person)
			for _, list := range [][]int{{person}, {0, person}, {person, people}} {
				failsGroup(t, people, list)
			}
			failsMean(t, people, person, 5)
		}
	})
	failsMean(t, 200, 200, 200)
	failsMean(t, 200, -1, 1)
}

func TestStepsOutOfRange(t *testing.T) {
	for _, step := range []int{math.MinInt, math.MinInt + 1, -1000000, -1, 0, impl.MaxStep + 1, math.MaxInt - 30000, math.MaxInt - 1, math.MaxInt} {
		eachFew(func(people int) {
			name := fmt.Sprintf(" of %d by %d", people, step)
			for person := range people {
				n, ok := impl.NextStepFor(people, person, step)
				failsNumber(t, "NextStepFor"+name, n, ok)
			}
			for _, k := range []int{0, 1, people, 20} {
				list, ok := impl.SameOrderSteps(people, step, k)
				failsList(t, "SameOrderSteps"+name, list, ok)
				list, ok = impl.LastOnes(people, step, k)
				failsList(t, "LastOnes"+name, list, ok)
			}
		})
	}
	for _, steps := range []int{math.MinInt, -200, -1, 0, 201, 202, impl.MaxStep, math.MaxInt} {
		for _, people := range tablePeople {
			failsTable(t, people, people-1, steps)
		}
	}
}

func TestAsManyLeftAsAreThere(t *testing.T) {
	for _, people := range tablePeople {
		for _, left := range []int{math.MinInt, -people, -1, 0, people + 1, people + 2, math.MaxInt} {
			for _, step := range []int{1, 2, impl.MaxStep} {
				list, ok := impl.LastOnes(people, step, left)
				failsList(t, fmt.Sprintf("LastOnes of %d by %d, %d", people, step, left), list, ok)
			}
		}
	}
}

// noGroups are lists that are no groups of so many people.
func noGroups(people int) [][]int {
	lists := [][]int{
		nil, {}, {-1}, {people}, {math.MinInt}, {math.MaxInt}, {0, 0}, {people - 1, people - 1}, {1, 0}, {-1, 0}, {0, people}, {math.MinInt, 0}, {0, math.MaxInt}, {math.MaxInt, math.MinInt},
		{0, 2, 1}, {2, 1, 0}, {0, 1, 1}, {0, 0, 1}, {0, 1, 2, 0}, extremes, upTo(people + 1), upTo(1000000), even(1000000, 0), even(people+1, 0),
	}
	back := upTo(people)
	slices.Reverse(back)
	lists = append(lists, append(back, 0), append(upTo(people), people-1))
	if people > 1 {
		lists = append(lists, back)
	}
	return lists
}

func TestListsThatAreNoGroups(t *testing.T) {
	eachFew(func(people int) {
		for _, list := range noGroups(people) {
			failsGroup(t, people, list)
		}
	})
}

func TestFriendsOutOfRange(t *testing.T) {
	for _, friends := range []int{math.MinInt, math.MinInt + 1, math.MinInt / 2, -8, -1, 0, 9, 10, 12, 16, 200, math.MaxInt/2 + 1, math.MaxInt - 1, math.MaxInt} {
		n, ok := impl.StepForFriends(friends)
		failsNumber(t, fmt.Sprint("StepForFriends of ", friends), n, ok)
	}
}

func TestCountsOfSameOrders(t *testing.T) {
	for _, count := range []int{math.MinInt, -20, -1, 21, 22, 200, math.MaxInt} {
		eachFew(func(people int) {
			for _, step := range []int{1, 2, impl.MaxStep} {
				list, ok := impl.SameOrderSteps(people, step, count)
				failsList(t, fmt.Sprintf("SameOrderSteps of %d by %d, %d", people, step, count), list, ok)
			}
		})
	}
}
