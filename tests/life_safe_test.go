package tests

import (
	"math"
	"runtime"
	"slices"
	"strings"
	"testing"

	"loop.example/g01295/impl"
)

// callCats calls all functions of the chapter that take cats, and returns all lists of their results.
func callCats(c impl.Cats, k, lives int) [][]int {
	impl.AreCats(c)
	impl.TurnsOfCats(c)
	impl.LastCat(c)
	impl.NextCounted(c, k)
	impl.TurnGone(c, k)
	impl.LivesToBeLeft(c, k)
	impl.FirstGone(c)
	impl.CatsText(c)
	losses, _ := impl.LossesOf(c)
	order, _ := impl.OrderOfCats(c)
	after, _ := impl.LivesAfter(c, k)
	by, _ := impl.LossesBy(c, k)
	given, _ := impl.GiveLife(c, k, lives)
	return [][]int{losses, order, after, by, given.Lives}
}

// fewCats are cats and others that are none, not too many for calls with all arguments.
func fewCats() []impl.Cats {
	return append(noCats(),
		impl.Cats{Lives: []int{1}, Step: 1},
		impl.Cats{Lives: []int{9}, Step: impl.MaxStep},
		impl.Cats{Lives: []int{1, 1}, Step: 2},
		impl.Cats{Lives: []int{2, 2, 2}, Step: 2},
		impl.Cats{Lives: []int{1, 9, 3, 4}, Step: 7},
		impl.Cats{Lives: slices.Repeat([]int{impl.MaxLives}, impl.MaxLived), Step: impl.MaxStep},
	)
}

func TestLifeNeverPanics(t *testing.T) {
	for _, a := range extremes {
		for _, b := range extremes {
			callCats(impl.Cats{Lives: []int{a, b}, Step: 2}, 1, 1)
			callCats(impl.Cats{Lives: []int{1, a}, Step: b}, 0, 0)
			for _, c := range extremes {
				impl.EvenCats(a, b, c)
				impl.SkipOrder(a, b, c)
				impl.SkipLast(a, b, c)
			}
			for _, c := range fewCats() {
				impl.GiveLife(c, a, b)
			}
		}
		for _, c := range fewCats() {
			callCats(c, a, 0)
		}
	}
	for _, s := range []string{"", "~", "\x00~\x00", "1~\xff", "\xf0\x9f~\x98", strings.Repeat("~", 1000000), strings.Repeat("1", 1000000), "1~" + strings.Repeat("1,", 1000000)} {
		impl.ParseCats(s)
	}
}

func TestCatsStayAsTheyAre(t *testing.T) {
	for _, c := range fewCats() {
		room := append(slices.Clone(c.Lives), 1, -2, -3)
		before := slices.Clone(room)
		given := impl.Cats{Lives: room[:len(c.Lives)], Step: c.Step}
		for _, k := range []int{-1, 0, 1, len(c.Lives) - 1, len(c.Lives), math.MaxInt} {
			lists := callCats(given, k, 0)
			if !slices.Equal(room, before) {
				t.Fatal("the argument is changed:", room, before)
			}
			for i, list := range lists {
				for _, other := range lists[i+1:] {
					kept := slices.Clone(other)
					overwrite(list)
					if !slices.Equal(other, kept) {
						t.Fatal("two results share memory:", c)
					}
				}
				overwrite(list)
			}
			if !slices.Equal(room, before) {
				t.Fatal("a result shares memory with the argument:", c)
			}
		}
	}
}

func TestRoomBehindLivesIsNotRead(t *testing.T) {
	room := []int{2, 1, 3, 1, 2000, -1}
	short := impl.Cats{Lives: []int{2, 1, 3}, Step: 2}
	long := impl.Cats{Lives: room[:3], Step: 2}
	if !impl.AreCats(long) {
		t.Error("the room behind lives is read")
	}
	for i, list := range callCats(short, 2, 1) {
		if other := callCats(long, 2, 1)[i]; !slices.Equal(list, other) {
			t.Error("the room behind lives is read:", list, other)
		}
	}
}

func TestLifeCallsAreAlike(t *testing.T) {
	calls := []func() []int{
		func() []int { c, _ := impl.EvenCats(5, 3, 2); return c.Lives },
		func() []int { c, _ := impl.ParseCats("4~1,2,3"); return c.Lives },
		func() []int { l, _ := impl.SkipOrder(9, 4, 2); return l },
	}
	for i := range callCats(impl.Cats{Lives: []int{2, 2, 2}, Step: 2}, 2, 1) {
		calls = append(calls, func() []int { return callCats(impl.Cats{Lives: []int{2, 2, 2}, Step: 2}, 2, 1)[i] })
	}
	wantAlike(t, calls)
}

// TestNobodyGoesOnCounting looks for goroutines that calls leave behind, of which some may be about to end.
func TestNobodyGoesOnCounting(t *testing.T) {
	before := runtime.NumGoroutine()
	c, _ := impl.EvenCats(impl.MaxLived, impl.MaxLives, 3)
	for k := range 1000 {
		impl.LivesAfter(c, k%400)
		impl.NextCounted(c, k%400)
		impl.LastCat(c)
		impl.FirstGone(c)
	}
	if after := runtime.NumGoroutine(); after > before+100 {
		t.Errorf("%d goroutines have become %d", before, after)
	}
}
