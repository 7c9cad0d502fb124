package tests

import (
	"slices"
	"testing"

	"loop.example/g01295/impl"
)

// callCircle calls all functions of the chapter that take numbers only.
func callCircle(a, b, c int) {
	impl.OrderOut(a, b)
	impl.LastLeft(a, b)
	impl.BackOrder(a, b)
	impl.RingOf(a, b)
	impl.GapsOut(a, b)
	impl.FixedTurns(a, b)
	impl.OutAt(a, b, c)
	impl.TurnOut(a, b, c)
	impl.LeftAfter(a, b, c)
	impl.LastFrom(a, b, c)
	impl.BeginFor(a, b, c)
}

// callRing calls all functions of the chapter that take a ring, and returns all lists of their results.
func callRing(r impl.Ring, places int) [][]int {
	impl.IsRing(r)
	impl.RingText(r)
	next, _, _ := impl.StepRing(r)
	order, _ := impl.RingOrder(r)
	turned, _ := impl.TurnRing(r, places)
	return [][]int{next.People, order, turned.People}
}

func TestNothingPanics(t *testing.T) {
	for _, a := range extremes {
		for _, b := range extremes {
			impl.FarLeft(a, b)
			for _, c := range extremes {
				callCircle(a, b, c)
			}
			callRing(impl.Ring{People: []int{a, b}, Step: 2}, 1)
			callRing(impl.Ring{People: []int{0, 5, 2}, Step: a}, b)
		}
	}
	for _, r := range append(goodRings(), badRings()...) {
		for _, places := range extremes {
			callRing(r, places)
		}
	}
}

func TestRingsStayAsTheyAre(t *testing.T) {
	for _, r := range append(goodRings(), badRings()...) {
		room := append(slices.Clone(r.People), -1, -2, -3)
		before := slices.Clone(room)
		given := impl.Ring{People: room[:len(r.People)], Step: r.Step}
		for _, places := range []int{-1, 0, 1, len(r.People) - 1, len(r.People)} {
			lists := callRing(given, places)
			if !slices.Equal(room, before) {
				t.Fatal("the argument is changed:", room, before)
			}
			for i, list := range lists {
				for _, other := range lists[i+1:] {
					kept := slices.Clone(other)
					overwrite(list)
					if !slices.Equal(other, kept) {
						t.Fatal("two results share memory:", r)
					}
				}
				overwrite(list)
			}
			if !slices.Equal(room, before) {
				t.Fatal("a result shares memory with the argument:", r)
			}
		}
	}
}

func TestRoomBehindIsNotRead(t *testing.T) {
	short := impl.Ring{People: []int{4, 2, 9}, Step: 2}
	room := []int{4, 2, 9, 4, 2000, -1}
	long := impl.Ring{People: room[:3], Step: 2}
	if !impl.IsRing(long) {
		t.Error("the room behind a ring is read")
	}
	for i, list := range callRing(short, 2) {
		if other := callRing(long, 2)[i]; !slices.Equal(list, other) {
			t.Error("the room behind a ring is read:", list, other)
		}
	}
}

func TestCallsAreAlike(t *testing.T) {
	calls := []func() []int{
		func() []int { l, _ := impl.OrderOut(9, 4); return l },
		func() []int { l, _ := impl.BackOrder(9, 4); return l },
		func() []int { l, _ := impl.LeftAfter(9, 4, 3); return l },
		func() []int { l, _ := impl.GapsOut(9, 4); return l },
		func() []int { l, _ := impl.FixedTurns(9, 1); return l },
		func() []int { r, _ := impl.RingOf(9, 4); return r.People },
		func() []int { r, _ := impl.ParseRing("4@1,2,3"); return r.People },
	}
	wantAlike(t, calls)
}
