package tests

import (
	"fmt"
	"slices"
	"strconv"
	"strings"
	"testing"

	"loop.example/g01295/impl"
)

func TestCircleExample(t *testing.T) {
	list, ok := impl.OrderOut(7, 3)
	wantList(t, "OrderOut", list, ok, []int{2, 5, 1, 6, 4, 0, 3})
	n, ok := impl.LastLeft(7, 3)
	wantNumber(t, "LastLeft", n, ok, 3)
	list, ok = impl.LeftAfter(7, 3, 2)
	wantList(t, "LeftAfter", list, ok, []int{6, 0, 1, 3, 4})
	n, ok = impl.TurnOut(7, 3, 6)
	wantNumber(t, "TurnOut", n, ok, 3)
	n, ok = impl.LastFrom(7, 3, 2)
	wantNumber(t, "LastFrom", n, ok, 5)
	n, ok = impl.BeginFor(7, 3, 0)
	wantNumber(t, "BeginFor", n, ok, 4)
	list, ok = impl.GapsOut(7, 3)
	wantList(t, "GapsOut", list, ok, []int{3, 3, 5, 5, 3, 3})
	r, ok := impl.ParseRing("3@0,1,2,3")
	wantRing(t, "ParseRing", r, ok, impl.Ring{People: []int{0, 1, 2, 3}, Step: 3})
	next, gone, ok := impl.StepRing(r)
	wantRing(t, "StepRing", next, ok, impl.Ring{People: []int{3, 0, 1}, Step: 3})
	wantNumber(t, "StepRing's person", gone, ok, 2)
	text, ok := impl.RingText(next)
	if !ok || text != "3@3,0,1" {
		t.Errorf("RingText: got %q, %v", text, ok)
	}
}

// eachCount calls f for small circles: steps of 1, of as many as there are people, and greater ones are among them.
func eachCount(f func(name string, people, step int, order []int)) {
	for people := 1; people <= 24; people++ {
		for step := 1; step <= 60; step++ {
			f(fmt.Sprintf("%d people by %d", people, step), people, step, walkOut(people, step, 0, 1))
		}
	}
}

func TestOrdersAreAsCounted(t *testing.T) {
	eachCount(func(name string, people, step int, order []int) {
		list, ok := impl.OrderOut(people, step)
		wantList(t, "OrderOut of "+name, list, ok, order)
		list, ok = impl.BackOrder(people, step)
		wantList(t, "BackOrder of "+name, list, ok, walkOut(people, step, 0, -1))
		last := order[people-1]
		n, ok := impl.LastLeft(people, step)
		wantNumber(t, "LastLeft of "+name, n, ok, last)
		n, ok = impl.FarLeft(people, step)
		wantNumber(t, "FarLeft of "+name, n, ok, last)
		for turn, person := range order {
			n, ok = impl.OutAt(people, step, turn)
			wantNumber(t, fmt.Sprintf("OutAt %d of %s", turn, name), n, ok, person)
			n, ok = impl.TurnOut(people, step, person)
			wantNumber(t, fmt.Sprintf("TurnOut %d of %s", person, name), n, ok, turn)
		}
	})
}

// leftFrom returns those who go at none of the first turns, from the first one behind the last who went.
func leftFrom(order []int, turns int) []int {
	begin := 0
	if turns > 0 {
		begin = order[turns-1] + 1
	}
	left := []int{}
	for i := range order {
		if p := (begin + i) % len(order); !slices.Contains(order[:turns], p) {
			left = append(left, p)
		}
	}
	return left
}

func TestCirclesInBetween(t *testing.T) {
	eachCount(func(name string, people, step int, order []int) {
		ring, ok := impl.RingOf(people, step)
		wantRing(t, "RingOf "+name, ring, ok, impl.Ring{People: upTo(people), Step: step})
		for turns := range people {
			left := leftFrom(order, turns)
			list, ok := impl.LeftAfter(people, step, turns)
			wantList(t, fmt.Sprintf("LeftAfter %d of %s", turns, name), list, ok, left)
			wantRing(t, fmt.Sprintf("StepRing %d times of %s", turns, name), ring, ok, impl.Ring{People: left, Step: step})
			list, ok = impl.RingOrder(ring)
			wantList(t, "RingOrder in between of "+name, list, ok, order[turns:])
			if turns == people-1 {
				break
			}
			next, gone, ok := impl.StepRing(ring)
			wantNumber(t, fmt.Sprintf("who goes at %d of %s", turns, name), gone, ok, order[turns])
			ring = next
		}
		_, _, ok = impl.StepRing(ring)
		if ok {
			t.Errorf("StepRing of one alone of %s", name)
		}
	})
}

func TestCountsFromOthersLeadBack(t *testing.T) {
	eachCount(func(name string, people, step int, order []int) {
		for begin := range people {
			last := walkOut(people, step, begin, 1)[people-1]
			n, ok := impl.LastFrom(people, step, begin)
			wantNumber(t, fmt.Sprintf("LastFrom %d of %s", begin, name), n, ok, last)
			n, ok = impl.BeginFor(people, step, last)
			wantNumber(t, fmt.Sprintf("BeginFor %d of %s", last, name), n, ok, begin)
		}
	})
}

func TestGapsAndFixedTurns(t *testing.T) {
	eachCount(func(name string, people, step int, order []int) {
		gaps, fixed := []int{}, []int{}
		for turn, person := range order {
			if person == turn {
				fixed = append(fixed, turn)
			}
			if turn > 0 {
				gap := 0
				for p := order[turn-1]; p != person; p = (p + 1) % people {
					gap++
				}
				gaps = append(gaps, gap)
			}
		}
		list, ok := impl.GapsOut(people, step)
		wantList(t, "GapsOut of "+name, list, ok, gaps)
		list, ok = impl.FixedTurns(people, step)
		wantList(t, "FixedTurns of "+name, list, ok, fixed)
	})
	list, ok := impl.FixedTurns(6, 1)
	wantList(t, "FixedTurns by 1", list, ok, []int{0, 1, 2, 3, 4, 5})
	list, ok = impl.FixedTurns(2, 2)
	wantList(t, "FixedTurns of nobody", list, ok, nil)
}

func TestOneAlone(t *testing.T) {
	for _, step := range []int{1, 2, 200, impl.MaxStep} {
		list, ok := impl.OrderOut(1, step)
		wantList(t, "OrderOut", list, ok, []int{0})
		list, ok = impl.BackOrder(1, step)
		wantList(t, "BackOrder", list, ok, []int{0})
		list, ok = impl.LeftAfter(1, step, 0)
		wantList(t, "LeftAfter", list, ok, []int{0})
		list, ok = impl.GapsOut(1, step)
		wantList(t, "GapsOut", list, ok, nil)
		list, ok = impl.FixedTurns(1, step)
		wantList(t, "FixedTurns", list, ok, []int{0})
		for _, f := range []func(int, int, int) (int, bool){impl.OutAt, impl.TurnOut, impl.LastFrom, impl.BeginFor} {
			n, ok := f(1, step, 0)
			wantNumber(t, "one alone", n, ok, 0)
			n, ok = f(1, step, 1)
			failsNumber(t, "a second one", n, ok)
		}
		for _, f := range []func(int, int) (int, bool){impl.LastLeft, impl.FarLeft} {
			n, ok := f(1, step)
			wantNumber(t, "one alone", n, ok, 0)
		}
		ring := impl.Ring{People: []int{999}, Step: step}
		list, ok = impl.RingOrder(ring)
		wantList(t, "RingOrder", list, ok, []int{999})
		turned, ok := impl.TurnRing(ring, 0)
		wantRing(t, "TurnRing", turned, ok, ring)
		next, gone, ok := impl.StepRing(ring)
		failsRing(t, "StepRing", next, ok)
		failsNumber(t, "StepRing's person", gone, ok)
	}
}

func TestLimitsMetExactly(t *testing.T) {
	people := impl.MaxPeople
	for _, step := range []int{1, 2, people - 1, people, people + 1, impl.MaxStep - 1, impl.MaxStep} {
		order := cutOut(upTo(people), step)
		list, ok := impl.OrderOut(people, step)
		wantList(t, "OrderOut", list, ok, order)
		n, ok := impl.LastLeft(people, step)
		wantNumber(t, "LastLeft", n, ok, order[people-1])
		n, ok = impl.OutAt(people, step, people-1)
		wantNumber(t, "OutAt", n, ok, order[people-1])
		n, ok = impl.TurnOut(people, step, people-1)
		wantNumber(t, "TurnOut", n, ok, slices.Index(order, people-1))
		list, ok = impl.LeftAfter(people, step, people-1)
		wantList(t, "LeftAfter", list, ok, order[people-1:])
		n, ok = impl.LastFrom(people, step, people-1)
		wantNumber(t, "LastFrom", n, ok, (order[people-1]+people-1)%people)
		n, ok = impl.BeginFor(people, step, (order[people-1]+people-1)%people)
		wantNumber(t, "BeginFor", n, ok, people-1)
		back := []int{}
		for _, p := range order {
			back = append(back, (people-p)%people)
		}
		list, ok = impl.BackOrder(people, step)
		wantList(t, "BackOrder", list, ok, back)
		list, ok = impl.GapsOut(people, step)
		if !ok || len(list) != people-1 {
			t.Error("GapsOut", list, ok)
		}
	}
}

func TestFarLeft(t *testing.T) {
	for _, c := range []struct{ people, step, last int }{
		{41, 3, 30},
		{100, 2, 72},
		{impl.MaxFar, 1, impl.MaxFar - 1},
		{impl.MaxFar, 2, 951424},
		{524288, 2, 0},
		{524287, 2, 524286},
		{2000, impl.MaxStep, cutOut(upTo(2000), impl.MaxStep)[1999]},
		{201, 7, cutOut(upTo(201), 7)[200]},
		{impl.MaxPeople, impl.MaxStep, cutOut(upTo(impl.MaxPeople), impl.MaxStep)[impl.MaxPeople-1]},
	} {
		n, ok := impl.FarLeft(c.people, c.step)
		wantNumber(t, fmt.Sprintf("FarLeft of %d by %d", c.people, c.step), n, ok, c.last)
	}
	if _, ok := impl.FarLeft(impl.MaxFar, impl.MaxStep); !ok {
		t.Error("FarLeft fails at both limits")
	}
	for _, c := range [][2]int{{0, 1}, {-1, 1}, {impl.MaxFar + 1, 1}, {1, 0}, {1, -1}, {1, impl.MaxStep + 1}} {
		n, ok := impl.FarLeft(c[0], c[1])
		failsNumber(t, fmt.Sprint("FarLeft of ", c), n, ok)
	}
}

// invalidCounts are numbers of people and steps one of which is no number of people or no step.
var invalidCounts = [][2]int{
	{0, 1}, {-1, 1}, {impl.MaxPeople + 1, 1}, {5, 0}, {5, -1}, {5, impl.MaxStep + 1}, {0, 0}, {-3, -3}, {impl.MaxPeople + 1, impl.MaxStep + 1},
}

func TestInvalidCounts(t *testing.T) {
	for _, c := range invalidCounts {
		name := fmt.Sprint(c)
		for _, f := range []func(int, int) ([]int, bool){impl.OrderOut, impl.BackOrder, impl.GapsOut, impl.FixedTurns} {
			list, ok := f(c[0], c[1])
			failsList(t, name, list, ok)
		}
		n, ok := impl.LastLeft(c[0], c[1])
		failsNumber(t, name, n, ok)
		for _, third := range []int{-1, 0, 1} {
			for _, f := range []func(int, int, int) (int, bool){impl.OutAt, impl.TurnOut, impl.LastFrom, impl.BeginFor} {
				n, ok := f(c[0], c[1], third)
				failsNumber(t, name, n, ok)
			}
			list, ok := impl.LeftAfter(c[0], c[1], third)
			failsList(t, name, list, ok)
		}
		r, ok := impl.RingOf(c[0], c[1])
		failsRing(t, name, r, ok)
	}
}

func TestInvalidPersonsAndTurns(t *testing.T) {
	for _, people := range []int{1, 2, 7, impl.MaxPeople} {
		for _, third := range []int{-people, -1, people, people + 1} {
			name := fmt.Sprintf("%d of %d", third, people)
			for _, f := range []func(int, int, int) (int, bool){impl.OutAt, impl.TurnOut, impl.LastFrom, impl.BeginFor} {
				n, ok := f(people, 3, third)
				failsNumber(t, name, n, ok)
			}
			list, ok := impl.LeftAfter(people, 3, third)
			failsList(t, name, list, ok)
			ring, _ := impl.RingOf(people, 3)
			turned, ok := impl.TurnRing(ring, third)
			failsRing(t, name, turned, ok)
		}
	}
}

// goodRings are rings at and within the limits.
func goodRings() []impl.Ring {
	high := []int{}
	for n := 999; n > 999-impl.MaxPeople; n-- {
		high = append(high, n)
	}
	return []impl.Ring{
		{People: []int{0}, Step: 1},
		{People: []int{999}, Step: impl.MaxStep},
		{People: []int{999, 0}, Step: 2},
		{People: []int{0, 999}, Step: 1},
		{People: []int{5, 3, 8, 1, 12, 0, 999}, Step: 3},
		{People: []int{7, 100, 42, 10}, Step: 4},
		{People: []int{7, 100, 42, 10, 1}, Step: 1000},
		{People: upTo(impl.MaxPeople), Step: impl.MaxStep},
		{People: high, Step: 17},
	}
}

// badRings are no rings.
func badRings() []impl.Ring {
	return []impl.Ring{
		{},
		{People: []int{}, Step: 1},
		{People: nil, Step: 3},
		{People: upTo(impl.MaxPeople + 1), Step: 1},
		{People: []int{1, 1}, Step: 1},
		{People: []int{0, 1, 2, 0}, Step: 2},
		{People: []int{999, 5, 999}, Step: 2},
		{People: []int{-1}, Step: 1},
		{People: []int{1, -1, 2}, Step: 1},
		{People: []int{1000}, Step: 1},
		{People: []int{0, 1000, 2}, Step: 1},
		{People: []int{0, 1}, Step: 0},
		{People: []int{0, 1}, Step: -1},
		{People: []int{0, 1}, Step: impl.MaxStep + 1},
		{People: extremes, Step: 1},
	}
}

func TestRings(t *testing.T) {
	for _, r := range goodRings() {
		if !impl.IsRing(r) {
			t.Error("no ring:", r)
		}
		order := cutOut(r.People, r.Step)
		list, ok := impl.RingOrder(r)
		wantList(t, "RingOrder", list, ok, order)
		for places := range r.People {
			turned, ok := impl.TurnRing(r, places)
			want := slices.Concat(r.People[places:], r.People[:places])
			wantRing(t, "TurnRing", turned, ok, impl.Ring{People: want, Step: r.Step})
		}
		for turn := 0; turn < len(order)-1; turn++ {
			next, gone, ok := impl.StepRing(r)
			wantNumber(t, "StepRing's person", gone, ok, order[turn])
			if ok = ok && impl.IsRing(next); !ok || len(next.People) != len(order)-turn-1 {
				t.Fatal("StepRing", next, ok)
			}
			r = next
		}
		wantRing(t, "the last ring", r, true, impl.Ring{People: order[len(order)-1:], Step: r.Step})
	}
	next, gone, ok := impl.StepRing(impl.Ring{People: []int{5, 3, 8, 1}, Step: 6})
	wantRing(t, "StepRing by 6", next, ok, impl.Ring{People: []int{8, 1, 5}, Step: 6})
	wantNumber(t, "StepRing's person by 6", gone, ok, 3)
}

func TestNoRings(t *testing.T) {
	for _, r := range badRings() {
		name := fmt.Sprint(r)
		if impl.IsRing(r) {
			t.Error("a ring:", name)
		}
		next, gone, ok := impl.StepRing(r)
		failsRing(t, "StepRing "+name, next, ok)
		failsNumber(t, "StepRing's person "+name, gone, ok)
		list, ok := impl.RingOrder(r)
		failsList(t, "RingOrder "+name, list, ok)
		turned, ok := impl.TurnRing(r, 0)
		failsRing(t, "TurnRing "+name, turned, ok)
		text, ok := impl.RingText(r)
		if ok || text != "" {
			t.Errorf("RingText %s: got %q, %v", name, text, ok)
		}
	}
}

func TestRingTexts(t *testing.T) {
	for _, r := range goodRings() {
		want := strconv.Itoa(r.Step) + "@"
		for i, n := range r.People {
			if i > 0 {
				want += ","
			}
			want += strconv.Itoa(n)
		}
		text, ok := impl.RingText(r)
		if !ok || text != want {
			t.Errorf("RingText: got %q, %v, want %q", text, ok, want)
		}
		back, ok := impl.ParseRing(text)
		wantRing(t, "ParseRing", back, ok, r)
	}
}

func TestTextsOfNoRing(t *testing.T) {
	texts := []string{
		"", "@", ",", "3", "3@", "@1", "3,1", "0,1,2", "3@,", "3@1,", "3@,1", "3@1,,2", "3@@1", "3@1@2", "@3@1", "1,2@3",
		"03@1", "00@1", "3@01", "3@00", "3@1,02", "3@000", "+3@1", "-3@1", "3@+1", "3@-1", "3@-0", "-0@1", "3@1,+2",
		" 3@1", "3 @1", "3@ 1", "3@1 ", "3@1, 2", "3@1\n", "3@1\x00", "\t3@1", "3@1;2", "3@1.2", "3@1 2", "3@1_0", "1_0@1",
		"0x3@1", "3@0x1", "3e1@1", "a@1", "3@a", "3@1,b", "\xff@1", "3@\xff", "٣@1", "3@١", "3@1,２",
		"0@1", "1000001@1", "3@1000", "3@0,1000", "3@1,1", "3@0,1,2,0", "10000000@1", "3@10000",
		"18446744073709551619@1", "3@18446744073709551616", "9223372036854775808@1", "3@9223372036854775807",
		"99999999999999999999999999@1", "3@99999999999999999999999999",
		strings.Repeat("1", 100000), strings.Repeat("1@", 50000), strings.Repeat(",", 100000), "1@" + strings.Repeat("1,", 50000),
	}
	tooMany := "1@0"
	for n := 1; n <= impl.MaxPeople; n++ {
		tooMany += "," + strconv.Itoa(n)
	}
	for _, s := range append(texts, tooMany) {
		r, ok := impl.ParseRing(s)
		failsRing(t, fmt.Sprintf("ParseRing %.60q", s), r, ok)
	}
	r, ok := impl.ParseRing(strings.TrimSuffix(tooMany, ",200"))
	wantRing(t, "as many as may be", r, ok, impl.Ring{People: upTo(impl.MaxPeople), Step: 1})
	r, ok = impl.ParseRing("1000000@999,0")
	wantRing(t, "the limits", r, ok, impl.Ring{People: []int{999, 0}, Step: impl.MaxStep})
}

// TestParsedTextsAreRingTexts changes single bytes of a RingText: what is parsed has just this text.
func TestParsedTextsAreRingTexts(t *testing.T) {
	base := "30@0,12,7"
	for at := 0; at <= len(base); at++ {
		for b := range 256 {
			texts := []string{base[:at] + string([]byte{byte(b)}) + base[at:]}
			if at < len(base) {
				texts = append(texts, base[:at]+string([]byte{byte(b)})+base[at+1:], base[:at]+base[at+1:])
			}
			for _, s := range texts {
				r, ok := impl.ParseRing(s)
				if !ok {
					failsRing(t, s, r, ok)
					continue
				}
				if text, ok := impl.RingText(r); !ok || text != s {
					t.Errorf("ParseRing takes %q, the text is %q", s, text)
				}
			}
		}
	}
}
