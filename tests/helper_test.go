package tests

import (
	"math"
	"slices"
	"testing"

	"loop.example/g01295/impl"
)

// extremes are numbers around the limits of the document and of int.
var extremes = []int{
	math.MinInt, math.MinInt + 1, math.MinInt32, -1000001, -200, -2, -1, 0, 1, 2, 3, 7, 10,
	199, 200, 201, 999, 1000, 1001, 999999, 1000000, 1000001, math.MaxInt32, math.MaxInt - 1, math.MaxInt,
}

// walkOut counts one person after the other, as the document says it; way is 1 forward and -1 backward.
func walkOut(people, step, begin, way int) []int {
	gone := make([]bool, people)
	onward := func(p int) int { return (p + way + people) % people }
	var order []int
	at := begin
	for len(order) < people {
		for counted := 0; ; at = onward(at) {
			if gone[at] {
				continue
			}
			if counted++; counted == step {
				break
			}
		}
		gone[at] = true
		order = append(order, at)
		at = onward(at)
	}
	return order
}

// cutOut returns the numbers of a list in the order out, for steps that are too great to walk: it turns the list, and takes the first one out. Several steps take turns.
func cutOut(numbers []int, steps ...int) []int {
	left := slices.Clone(numbers)
	var order []int
	for len(left) > 0 {
		by := (steps[len(order)%len(steps)] - 1) % len(left)
		left = slices.Concat(left[by:], left[:by])
		order = append(order, left[0])
		left = left[1:]
	}
	return order
}

func upTo(count int) []int {
	numbers := []int{}
	for i := range count {
		numbers = append(numbers, i)
	}
	return numbers
}

func wantList(t *testing.T, name string, got []int, ok bool, want []int) {
	t.Helper()
	if !ok || !slices.Equal(got, want) {
		t.Errorf("%s: got %v, %v, want %v, true", name, got, ok, want)
	}
}

func wantNumber(t *testing.T, name string, got int, ok bool, want int) {
	t.Helper()
	if !ok || got != want {
		t.Errorf("%s: got %d, %v, want %d, true", name, got, ok, want)
	}
}

func wantRing(t *testing.T, name string, got impl.Ring, ok bool, want impl.Ring) {
	t.Helper()
	if !ok || got.Step != want.Step || !slices.Equal(got.People, want.People) {
		t.Errorf("%s: got %v, %v, want %v, true", name, got, ok, want)
	}
}

func wantCats(t *testing.T, name string, got impl.Cats, ok bool, want impl.Cats) {
	t.Helper()
	if !ok || got.Step != want.Step || !slices.Equal(got.Lives, want.Lives) {
		t.Errorf("%s: got %v, %v, want %v, true", name, got, ok, want)
	}
}

func wantSong(t *testing.T, name string, got impl.Song, ok bool, counts ...int) {
	t.Helper()
	wantList(t, name, got.Counts, ok, counts)
}

func failsList(t *testing.T, name string, got []int, ok bool) {
	t.Helper()
	if ok || len(got) != 0 {
		t.Errorf("%s: got %v, %v, want a failure without a value", name, got, ok)
	}
}

func failsNumber(t *testing.T, name string, got int, ok bool) {
	t.Helper()
	if ok || got != 0 {
		t.Errorf("%s: got %d, %v, want a failure without a value", name, got, ok)
	}
}

func failsRing(t *testing.T, name string, got impl.Ring, ok bool) {
	t.Helper()
	if ok || got.Step != 0 || len(got.People) != 0 {
		t.Errorf("%s: got %v, %v, want a failure without a value", name, got, ok)
	}
}

func failsCats(t *testing.T, name string, got impl.Cats, ok bool) {
	t.Helper()
	if ok || got.Step != 0 || len(got.Lives) != 0 {
		t.Errorf("%s: got %v, %v, want a failure without a value", name, got, ok)
	}
}

func failsSong(t *testing.T, name string, got impl.Song, ok bool) {
	t.Helper()
	failsList(t, name, got.Counts, ok)
}

// overwrite fills a list and the room behind it.
func overwrite(list []int) {
	whole := list[:cap(list)]
	for i := range whole {
		whole[i] = -77
	}
}

// wantAlike wants each call to give its list, which is not empty, again, whatever becomes of the first one.
func wantAlike(t *testing.T, calls []func() []int) {
	t.Helper()
	for i, call := range calls {
		first := call()
		kept := slices.Clone(first)
		overwrite(first)
		if second := call(); len(kept) == 0 || !slices.Equal(second, kept) {
			t.Error("a second call gives something else:", i, kept, second)
		}
	}
}
