package tests

import (
	"fmt"
	"math"
	"slices"
	"strconv"
	"strings"
	"testing"

	"loop.example/g01295/impl"
)

// course is how cats are counted out: who loses at each turn, and, behind 0, 1, .. turns, the lives and who is counted next.
type course struct {
	losses []int
	lives  [][]int
	next   []int
}

// order returns the order of going, and behind it who is left.
func (c course) order() []int {
	var order []int
	for turn, loser := range c.losses {
		if c.lives[turn+1][loser] == 0 {
			order = append(order, loser)
		}
	}
	return append(order, c.last())
}

// last looks for the one who has lives at the end.
func (c course) last() int {
	return slices.IndexFunc(c.lives[len(c.losses)], func(n int) bool { return n > 0 })
}

func alive(lives []int) int {
	count := 0
	for _, n := range lives {
		if n > 0 {
			count++
		}
	}
	return count
}

// onward returns the first one with a life from a person on.
func onward(lives []int, from int) int {
	for lives[from%len(lives)] == 0 {
		from++
	}
	return from % len(lives)
}

// walkCats counts one person after the other. Ways around after which nothing has changed are left out of great steps.
func walkCats(c impl.Cats) course {
	lives := slices.Clone(c.Lives)
	at := 0
	walked := course{lives: [][]int{slices.Clone(lives)}, next: []int{0}}
	for alive(lives) > 1 {
		count := c.Step
		if around := alive(lives); count > 3*around {
			count = count%around + around
		}
		for counted := 1; counted < count; counted++ {
			at = onward(lives, at+1)
		}
		lives[at]--
		walked.losses = append(walked.losses, at)
		at = onward(lives, at+1)
		walked.lives = append(walked.lives, slices.Clone(lives))
		walked.next = append(walked.next, at)
	}
	return walked
}

// walkSkip counts one person after the other, and passes as many over between two turns.
func walkSkip(people, step, skip int) []int {
	lives := slices.Repeat([]int{1}, people)
	var order []int
	at := 0
	for {
		for counted := 1; counted < step; counted++ {
			at = onward(lives, at+1)
		}
		lives[at] = 0
		order = append(order, at)
		if len(order) == people {
			return order
		}
		for passed := 0; passed <= skip; passed++ {
			at = onward(lives, at+1)
		}
	}
}

// someLives returns lives that follow a rule without much order.
func someLives(people, seed int) []int {
	lives := []int{}
	for z := seed; len(lives) < people; {
		z = (z*157 + 2207) % 10007
		lives = append(lives, z%impl.MaxLives+1)
	}
	return lives
}

// listsOfLives returns all lists of so many lives, each at most as many as most.
func listsOfLives(people, most int) [][]int {
	if people == 0 {
		return [][]int{{}}
	}
	var lists [][]int
	for _, shorter := range listsOfLives(people-1, most) {
		for n := 1; n <= most; n++ {
			lists = append(lists, append(slices.Clone(shorter), n))
		}
	}
	return lists
}

// manyCats are small cats of all kinds, greater ones, and those at the limits.
func manyCats() []impl.Cats {
	var cats []impl.Cats
	for people := 1; people <= 4; people++ {
		for _, lives := range listsOfLives(people, 3) {
			for step := 1; step <= 6; step++ {
				cats = append(cats, impl.Cats{Lives: lives, Step: step})
			}
		}
	}
	for people := 1; people <= impl.MaxLived; people++ {
		for _, step := range []int{1, 2, 3, 7, people, people + 1, 100, impl.MaxStep - 1, impl.MaxStep} {
			cats = append(cats, impl.Cats{Lives: someLives(people, 31*people+step), Step: step})
		}
	}
	for _, step := range []int{1, 2, 39, 40, 41, impl.MaxStep} {
		for _, people := range []int{1, 2, impl.MaxLived} {
			for _, lives := range []int{1, impl.MaxLives} {
				cats = append(cats, impl.Cats{Lives: slices.Repeat([]int{lives}, people), Step: step})
			}
		}
	}
	return cats
}

// noCats are no cats.
func noCats() []impl.Cats {
	bad := []impl.Cats{
		{},
		{Lives: nil, Step: 1},
		{Lives: []int{}, Step: 3},
		{Lives: slices.Repeat([]int{1}, impl.MaxLived+1), Step: 1},
		{Lives: slices.Repeat([]int{9}, 100000), Step: 1},
		{Lives: extremes, Step: 1},
	}
	for _, lives := range []int{math.MinInt, -1, 0, 10, math.MaxInt} {
		bad = append(bad, impl.Cats{Lives: []int{lives}, Step: 1}, impl.Cats{Lives: []int{2, 1, lives}, Step: 2},
			impl.Cats{Lives: []int{lives, 3}, Step: 2}, impl.Cats{Lives: []int{9, lives, 9}, Step: impl.MaxStep})
	}
	for _, step := range []int{math.MinInt, -1, 0, impl.MaxStep + 1, math.MaxInt} {
		bad = append(bad, impl.Cats{Lives: []int{1}, Step: step}, impl.Cats{Lives: []int{1, 2, 3}, Step: step})
	}
	return bad
}

func nameOf(c impl.Cats) string { return fmt.Sprintf(" of %d~%v", c.Step, c.Lives) }

func TestLifeExample(t *testing.T) {
	c, ok := impl.EvenCats(3, 2, 2)
	wantCats(t, "EvenCats", c, ok, impl.Cats{Lives: []int{2, 2, 2}, Step: 2})
	list, ok := impl.LossesOf(c)
	wantList(t, "LossesOf", list, ok, []int{1, 0, 2, 1, 0})
	n, ok := impl.LastCat(c)
	wantNumber(t, "LastCat", n, ok, 2)
	list, ok = impl.OrderOfCats(c)
	wantList(t, "OrderOfCats", list, ok, []int{1, 0, 2})
	n, ok = impl.TurnsOfCats(c)
	wantNumber(t, "TurnsOfCats", n, ok, 5)
	list, ok = impl.LivesAfter(c, 3)
	wantList(t, "LivesAfter", list, ok, []int{1, 1, 1})
	list, ok = impl.SkipOrder(5, 1, 1)
	wantList(t, "SkipOrder", list, ok, []int{0, 2, 4, 3, 1})
	n, ok = impl.SkipLast(5, 1, 1)
	wantNumber(t, "SkipLast", n, ok, 1)
}

func TestCatsAreAsWalked(t *testing.T) {
	for _, c := range manyCats() {
		name := nameOf(c)
		if !impl.AreCats(c) {
			t.Fatal("no cats", name)
		}
		walked := walkCats(c)
		list, ok := impl.LossesOf(c)
		wantList(t, "LossesOf"+name, list, ok, walked.losses)
		n, ok := impl.TurnsOfCats(c)
		wantNumber(t, "TurnsOfCats"+name, n, ok, len(walked.losses))
		list, ok = impl.OrderOfCats(c)
		wantList(t, "OrderOfCats"+name, list, ok, walked.order())
		n, ok = impl.LastCat(c)
		wantNumber(t, "LastCat"+name, n, ok, walked.last())
		for turns := range walked.next {
			list, ok = impl.LivesAfter(c, turns)
			wantList(t, fmt.Sprintf("LivesAfter %d%s", turns, name), list, ok, walked.lives[turns])
			n, ok = impl.NextCounted(c, turns)
			wantNumber(t, fmt.Sprintf("NextCounted %d%s", turns, name), n, ok, walked.next[turns])
		}
	}
}

// TestCatsHaveAsManyTurnsAsLostLives needs no count of its own: what the functions tell of the same cats has to agree.
func TestCatsHaveAsManyTurnsAsLostLives(t *testing.T) {
	for _, c := range manyCats() {
		name := nameOf(c)
		turns, _ := impl.TurnsOfCats(c)
		losses, _ := impl.LossesOf(c)
		wantNumber(t, "the losses"+name, len(losses), true, turns)
		end, ok := impl.LivesAfter(c, turns)
		last, _ := impl.LastCat(c)
		if !ok || alive(end) != 1 || end[last] == 0 {
			t.Fatalf("not one is left%s: %v", name, end)
		}
		lost := 0
		for person, lives := range c.Lives {
			lost += lives - end[person]
		}
		wantNumber(t, "the lost lives"+name, lost, true, turns)
		n, ok := impl.NextCounted(c, turns)
		wantNumber(t, "who is left"+name, n, ok, last)
		order, _ := impl.OrderOfCats(c)
		wantNumber(t, "the last one"+name, order[len(order)-1], len(order) == len(c.Lives), last)
		slices.Sort(order)
		wantList(t, "each person once"+name, order, true, upTo(len(c.Lives)))
	}
}

func TestTurnsOfEachPerson(t *testing.T) {
	for _, c := range manyCats() {
		name := nameOf(c)
		walked := walkCats(c)
		for person, lives := range c.Lives {
			turns := []int{}
			for turn, loser := range walked.losses {
				if loser == person {
					turns = append(turns, turn)
				}
			}
			list, ok := impl.LossesBy(c, person)
			wantList(t, fmt.Sprintf("LossesBy %d%s", person, name), list, ok, turns)
			n, ok := impl.TurnGone(c, person)
			if person == walked.last() {
				failsNumber(t, "TurnGone of the one who is left"+name, n, ok)
				continue
			}
			wantNumber(t, fmt.Sprintf("TurnGone %d%s", person, name), n, ok, turns[lives-1])
		}
		order := walked.order()
		first, turn, ok := impl.FirstGone(c)
		if len(order) == 1 {
			failsNumber(t, "FirstGone"+name, first, ok)
			failsNumber(t, "FirstGone's turn"+name, turn, ok)
			continue
		}
		wantNumber(t, "FirstGone"+name, first, ok, order[0])
		n, _ := impl.TurnGone(c, order[0])
		wantNumber(t, "FirstGone's turn"+name, turn, ok, n)
	}
}

func TestOneLifeEachIsARing(t *testing.T) {
	for people := 1; people <= impl.MaxLived; people++ {
		for _, step := range []int{1, 2, 3, 5, people, people + 1, 1000, impl.MaxStep} {
			c, ok := impl.EvenCats(people, 1, step)
			name := nameOf(c)
			ring, _ := impl.RingOf(people, step)
			order, _ := impl.RingOrder(ring)
			list, found := impl.OrderOfCats(c)
			wantList(t, "OrderOfCats"+name, list, ok && found, order)
			list, found = impl.LossesOf(c)
			wantList(t, "LossesOf"+name, list, found, order[:people-1])
			n, found := impl.LastCat(c)
			wantNumber(t, "LastCat"+name, n, found, order[people-1])
			for turns := range people {
				left, _ := impl.LeftAfter(people, step, turns)
				n, found = impl.NextCounted(c, turns)
				wantNumber(t, fmt.Sprintf("NextCounted %d%s", turns, name), n, found, left[0])
			}
		}
	}
}

func TestEvenCats(t *testing.T) {
	for _, people := range []int{1, 2, 3, 17, impl.MaxLived} {
		for lives := 1; lives <= impl.MaxLives; lives++ {
			for _, step := range []int{1, 2, 40, impl.MaxStep} {
				c, ok := impl.EvenCats(people, lives, step)
				wantCats(t, "EvenCats", c, ok, impl.Cats{Lives: slices.Repeat([]int{lives}, people), Step: step})
			}
		}
	}
	for _, c := range [][3]int{
		{0, 1, 1}, {-1, 1, 1}, {math.MinInt, 1, 1}, {impl.MaxLived + 1, 1, 1}, {impl.MaxPeople, 1, 1}, {math.MaxInt, 1, 1},
		{3, 0, 1}, {3, -1, 1}, {3, math.MinInt, 1}, {3, impl.MaxLives + 1, 1}, {3, math.MaxInt, 1},
		{3, 1, 0}, {3, 1, -1}, {3, 1, math.MinInt}, {3, 1, impl.MaxStep + 1}, {3, 1, math.MaxInt},
		{0, 0, 0}, {impl.MaxLived + 1, impl.MaxLives + 1, impl.MaxStep + 1},
	} {
		got, ok := impl.EvenCats(c[0], c[1], c[2])
		failsCats(t, fmt.Sprint("EvenCats of ", c), got, ok)
	}
}

func TestOneCatAlone(t *testing.T) {
	for lives := 1; lives <= impl.MaxLives; lives++ {
		for _, step := range []int{1, 2, impl.MaxStep} {
			c := impl.Cats{Lives: []int{lives}, Step: step}
			name := nameOf(c)
			n, ok := impl.TurnsOfCats(c)
			wantNumber(t, "TurnsOfCats"+name, n, ok, 0)
			list, ok := impl.LossesOf(c)
			wantList(t, "LossesOf"+name, list, ok, nil)
			list, ok = impl.OrderOfCats(c)
			wantList(t, "OrderOfCats"+name, list, ok, []int{0})
			n, ok = impl.LastCat(c)
			wantNumber(t, "LastCat"+name, n, ok, 0)
			list, ok = impl.LivesAfter(c, 0)
			wantList(t, "LivesAfter"+name, list, ok, []int{lives})
			list, ok = impl.LivesAfter(c, 1)
			failsList(t, "LivesAfter 1"+name, list, ok)
			n, ok = impl.NextCounted(c, 0)
			wantNumber(t, "NextCounted"+name, n, ok, 0)
			n, ok = impl.NextCounted(c, 1)
			failsNumber(t, "NextCounted 1"+name, n, ok)
			n, ok = impl.TurnGone(c, 0)
			failsNumber(t, "TurnGone"+name, n, ok)
			list, ok = impl.LossesBy(c, 0)
			wantList(t, "LossesBy"+name, list, ok, nil)
			n, ok = impl.LivesToBeLeft(c, 0)
			wantNumber(t, "LivesToBeLeft"+name, n, ok, 1)
			first, turn, ok := impl.FirstGone(c)
			failsNumber(t, "FirstGone"+name, first, ok)
			failsNumber(t, "FirstGone's turn"+name, turn, ok)
		}
	}
}

func TestLivesThatAreNeverLost(t *testing.T) {
	c := impl.Cats{Lives: []int{1, 1, 9}, Step: 1}
	list, ok := impl.LossesOf(c)
	wantList(t, "LossesOf", list, ok, []int{0, 1})
	list, ok = impl.LivesAfter(c, 2)
	wantList(t, "LivesAfter", list, ok, []int{0, 0, 9})
	list, ok = impl.LossesBy(c, 2)
	wantList(t, "LossesBy", list, ok, nil)
	list, ok = impl.OrderOfCats(c)
	wantList(t, "OrderOfCats", list, ok, []int{0, 1, 2})
	n, ok := impl.TurnGone(c, 2)
	failsNumber(t, "TurnGone", n, ok)
}

func TestLivesAreGiven(t *testing.T) {
	for _, c := range []impl.Cats{
		{Lives: []int{1}, Step: 1},
		{Lives: []int{9, 1, 5}, Step: impl.MaxStep},
		{Lives: someLives(impl.MaxLived, 5), Step: 3},
	} {
		for person, has := range c.Lives {
			for lives := -2; lives <= 11; lives++ {
				name := fmt.Sprintf("GiveLife %d %d%s", person, lives, nameOf(c))
				got, ok := impl.GiveLife(c, person, lives)
				if lives < 0 || has+lives > impl.MaxLives {
					failsCats(t, name, got, ok)
					continue
				}
				want := impl.Cats{Lives: slices.Clone(c.Lives), Step: c.Step}
				want.Lives[person] = has + lives
				wantCats(t, name, got, ok, want)
			}
			for _, lives := range []int{math.MinInt, math.MinInt + 9, math.MaxInt - 8, math.MaxInt} {
				got, ok := impl.GiveLife(c, person, lives)
				failsCats(t, fmt.Sprintf("GiveLife %d", lives), got, ok)
			}
		}
	}
}

// leastLives tries all numbers of lives by walking: 0 if none is enough.
func leastLives(c impl.Cats, person int) int {
	other := impl.Cats{Lives: slices.Clone(c.Lives), Step: c.Step}
	for n := 1; n <= impl.MaxLives; n++ {
		other.Lives[person] = n
		if walkCats(other).last() == person {
			return n
		}
	}
	return 0
}

func TestLivesToBeLeft(t *testing.T) {
	seen := [impl.MaxLives + 1]int{}
	for _, c := range manyCats() {
		if len(c.Lives) > 12 {
			continue
		}
		for person := range c.Lives {
			name := fmt.Sprintf("LivesToBeLeft %d%s", person, nameOf(c))
			least := leastLives(c, person)
			seen[least]++
			n, ok := impl.LivesToBeLeft(c, person)
			if least == 0 {
				failsNumber(t, name, n, ok)
				continue
			}
			wantNumber(t, name, n, ok, least)
		}
	}
	if slices.Contains(seen[:], 0) {
		t.Error("not all numbers of lives come about:", seen)
	}
}

func TestLivesToBeLeftAtTheEdges(t *testing.T) {
	// By 1 two people lose in turn, person 0 first.
	c := impl.Cats{Lives: []int{9, 3}, Step: 1}
	n, ok := impl.LivesToBeLeft(c, 1)
	wantNumber(t, "all nine lives", n, ok, 9)
	c = impl.Cats{Lives: []int{3, 9}, Step: 1}
	n, ok = impl.LivesToBeLeft(c, 0)
	failsNumber(t, "not even nine lives", n, ok)
	c = impl.Cats{Lives: []int{9, 9}, Step: 1}
	n, ok = impl.LivesToBeLeft(c, 1)
	wantNumber(t, "own lives do not matter", n, ok, 9)
	all := impl.Cats{Lives: slices.Repeat([]int{impl.MaxLives}, impl.MaxLived), Step: 1}
	n, ok = impl.LivesToBeLeft(all, impl.MaxLived-1)
	wantNumber(t, "the last one of all", n, ok, 9)
	n, ok = impl.LivesToBeLeft(all, 0)
	failsNumber(t, "the first one of all", n, ok)
}

func TestSkipsAreAsWalked(t *testing.T) {
	for people := 1; people <= 15; people++ {
		for step := 1; step <= 18; step++ {
			for _, skip := range []int{0, 1, 2, 3, people - 1, people, people + 1, 40, impl.MaxPeople} {
				name := fmt.Sprintf(" of %d by %d with %d", people, step, skip)
				order := walkSkip(people, step, skip)
				list, ok := impl.SkipOrder(people, step, skip)
				wantList(t, "SkipOrder"+name, list, ok, order)
				n, ok := impl.SkipLast(people, step, skip)
				wantNumber(t, "SkipLast"+name, n, ok, order[people-1])
			}
		}
	}
}

func TestSkipsOfNobody(t *testing.T) {
	for people := 1; people <= impl.MaxPeople; people++ {
		for _, step := range []int{1, 2, 7, people, impl.MaxStep} {
			name := fmt.Sprintf(" of %d by %d", people, step)
			order, _ := impl.OrderOut(people, step)
			list, ok := impl.SkipOrder(people, step, 0)
			wantList(t, "SkipOrder"+name, list, ok, order)
			n, ok := impl.SkipLast(people, step, 0)
			wantNumber(t, "SkipLast"+name, n, ok, order[people-1])
		}
	}
}

func TestSkipsAtTheLimits(t *testing.T) {
	people := impl.MaxPeople
	for _, step := range []int{1, 2, 199, 200, 201} {
		for _, skip := range []int{0, 1, 199, impl.MaxPeople} {
			name := fmt.Sprintf(" of %d by %d with %d", people, step, skip)
			order := walkSkip(people, step, skip)
			list, ok := impl.SkipOrder(people, step, skip)
			wantList(t, "SkipOrder"+name, list, ok, order)
			n, ok := impl.SkipLast(people, step, skip)
			wantNumber(t, "SkipLast"+name, n, ok, order[people-1])
		}
	}
	order := walkSkip(5, impl.MaxStep, impl.MaxPeople)
	list, ok := impl.SkipOrder(5, impl.MaxStep, impl.MaxPeople)
	wantList(t, "SkipOrder by MaxStep", list, ok, order)
	list, ok = impl.SkipOrder(people, impl.MaxStep, impl.MaxPeople)
	slices.Sort(list)
	wantList(t, "SkipOrder at all limits", list, ok, upTo(people))
	for _, skip := range []int{0, 1, impl.MaxPeople} {
		list, ok = impl.SkipOrder(1, impl.MaxStep, skip)
		wantList(t, "SkipOrder of one alone", list, ok, []int{0})
		n, ok := impl.SkipLast(1, impl.MaxStep, skip)
		wantNumber(t, "SkipLast of one alone", n, ok, 0)
	}
	bad := [][3]int{{5, 1, -1}, {5, 1, impl.MaxPeople + 1}, {5, 1, math.MinInt}, {5, 1, math.MaxInt}, {1, 1, -1}}
	for _, c := range invalidCounts {
		bad = append(bad, [3]int{c[0], c[1], 0}, [3]int{c[0], c[1], 1}, [3]int{c[0], c[1], -1})
	}
	for _, c := range bad {
		list, ok := impl.SkipOrder(c[0], c[1], c[2])
		failsList(t, fmt.Sprint("SkipOrder of ", c), list, ok)
		n, ok := impl.SkipLast(c[0], c[1], c[2])
		failsNumber(t, fmt.Sprint("SkipLast of ", c), n, ok)
	}
}

func TestNoCats(t *testing.T) {
	for _, c := range noCats() {
		name := fmt.Sprintf(" of %d by %d", len(c.Lives), c.Step)
		if impl.AreCats(c) {
			t.Error("cats", name)
		}
		n, ok := impl.TurnsOfCats(c)
		failsNumber(t, "TurnsOfCats"+name, n, ok)
		list, ok := impl.LossesOf(c)
		failsList(t, "LossesOf"+name, list, ok)
		list, ok = impl.OrderOfCats(c)
		failsList(t, "OrderOfCats"+name, list, ok)
		n, ok = impl.LastCat(c)
		failsNumber(t, "LastCat"+name, n, ok)
		first, turn, ok := impl.FirstGone(c)
		failsNumber(t, "FirstGone"+name, first, ok)
		failsNumber(t, "FirstGone's turn"+name, turn, ok)
		text, ok := impl.CatsText(c)
		if ok || text != "" {
			t.Errorf("CatsText%s: got %q, %v", name, text, ok)
		}
		for _, k := range []int{-1, 0, 1} {
			failsOfCats(t, c, k, k)
			got, ok := impl.GiveLife(c, 0, k)
			failsCats(t, "GiveLife"+name, got, ok)
		}
	}
}

// failsOfCats wants all functions to fail for a person, and for a number of turns.
func failsOfCats(t *testing.T, c impl.Cats, person, turns int) {
	t.Helper()
	name := fmt.Sprintf(" %d, %d of %d by %d", person, turns, len(c.Lives), c.Step)
	list, ok := impl.LivesAfter(c, turns)
	failsList(t, "LivesAfter"+name, list, ok)
	n, ok := impl.NextCounted(c, turns)
	failsNumber(t, "NextCounted"+name, n, ok)
	n, ok = impl.TurnGone(c, person)
	failsNumber(t, "TurnGone"+name, n, ok)
	list, ok = impl.LossesBy(c, person)
	failsList(t, "LossesBy"+name, list, ok)
	got, ok := impl.GiveLife(c, person, 0)
	failsCats(t, "GiveLife"+name, got, ok)
	n, ok = impl.LivesToBeLeft(c, person)
	failsNumber(t, "LivesToBeLeft"+name, n, ok)
}

func TestCatsAndTurnsOutOfRange(t *testing.T) {
	for _, c := range manyCats() {
		turns, _ := impl.TurnsOfCats(c)
		failsOfCats(t, c, -1, -1)
		failsOfCats(t, c, len(c.Lives), turns+1)
	}
	for _, c := range []impl.Cats{{Lives: []int{1}, Step: 1}, {Lives: []int{2, 2, 2}, Step: 2}, {Lives: someLives(40, 1), Step: 5}} {
		for _, k := range []int{math.MinInt, math.MinInt + 1, -40, 41, 400, math.MaxInt - 1, math.MaxInt} {
			turns := k
			if k == 41 {
				turns = 361
			}
			failsOfCats(t, c, k, turns)
		}
	}
}

func TestCatsTexts(t *testing.T) {
	for _, c := range manyCats() {
		want := strconv.Itoa(c.Step) + "~"
		for i, lives := range c.Lives {
			if i > 0 {
				want += ","
			}
			want += strconv.Itoa(lives)
		}
		text, ok := impl.CatsText(c)
		if !ok || text != want {
			t.Errorf("CatsText: got %q, %v, want %q", text, ok, want)
		}
		back, ok := impl.ParseCats(want)
		wantCats(t, "ParseCats "+want, back, ok, c)
	}
}

func TestTextsOfNoCats(t *testing.T) {
	tooMany := "1~" + strings.Repeat("9,", impl.MaxLived)
	for _, s := range []string{
		"", "~", ",", "2", "2~", "~2", "2,1", "2,2,2", "2~,", "2~1,", "2~,1", "2~1,,2", "2~~1", "2~1~2", "~2~1", "1,2~3", "2~1~",
		"02~1", "00~1", "2~01", "2~00", "2~1,02", "2~001", "+2~1", "-2~1", "2~+1", "2~-1", "2~-0", "-0~1", "2~1,+2",
		" 2~1", "2 ~1", "2~ 1", "2~1 ", "2~1, 2", "2~1\n", "\n2~1", "2~1\x00", "\t2~1", "2~1;2", "2~1.2", "2~1 2", "2~1_0", "1_0~1", " ", "~ ",
		"0x2~1", "2~0x1", "2e1~1", "a~1", "2~a", "2~1,b", "\xff~1", "2~\xff", "٢~1", "2~١", "2~1,２", "2～1", "2@1", "2@1,2",
		"0~1", "1000001~1", "2~0", "2~10", "2~1,0", "2~9,10", "2~1,99", "10000000~1",
		"18446744073709551618~1", "2~18446744073709551617", "9223372036854775808~1", "2~9223372036854775807", "-18446744073709551614~1",
		"99999999999999999999999999~1", "2~99999999999999999999999999",
		strings.Repeat("1", 100000), strings.Repeat("1~", 50000), strings.Repeat(",", 100000), "1~" + strings.Repeat("1,", 50000),
		tooMany + "9", tooMany, tooMany + "9,9", tooMany + "0",
	} {
		c, ok := impl.ParseCats(s)
		failsCats(t, fmt.Sprintf("ParseCats %.60q", s), c, ok)
	}
	c, ok := impl.ParseCats(strings.TrimSuffix(tooMany, ","))
	wantCats(t, "as many as may be", c, ok, impl.Cats{Lives: slices.Repeat([]int{9}, impl.MaxLived), Step: 1})
	c, ok = impl.ParseCats("1000000~9,1")
	wantCats(t, "the limits", c, ok, impl.Cats{Lives: []int{9, 1}, Step: impl.MaxStep})
}

// TestParsedTextsAreCatsTexts changes single bytes of a CatsText: what is parsed has just this text.
func TestParsedTextsAreCatsTexts(t *testing.T) {
	base := "30~1,9,7"
	for at := 0; at <= len(base); at++ {
		for b := range 256 {
			texts := []string{base[:at] + string([]byte{byte(b)}) + base[at:]}
			if at < len(base) {
				texts = append(texts, base[:at]+string([]byte{byte(b)})+base[at+1:], base[:at]+base[at+1:])
			}
			for _, s := range texts {
				c, ok := impl.ParseCats(s)
				if !ok {
					failsCats(t, s, c, ok)
					continue
				}
				if text, ok := impl.CatsText(c); !ok || text != s {
					t.Errorf("ParseCats takes %q, the text is %q", s, text)
				}
			}
		}
	}
}
