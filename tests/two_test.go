package tests

import (
	"fmt"
	"math"
	"slices"
	"strconv"
	"strings"
	"testing"

	"loop.example/g01295/impl"
)

// manyPeople are numbers of people too great to be counted out, with powers of two, their neighbours and the limit.
func manyPeople() []int {
	many := []int{999999, 1000000, 123456789, 987654321012, impl.MaxMany - 1, impl.MaxMany}
	for power := 256; power <= impl.MaxMany; power *= 2 {
		many = append(many, power-1, power, power+1, power+power/2, power+power/3)
	}
	return slices.DeleteFunc(many, func(n int) bool { return n > impl.MaxMany })
}

// walkRounds counts every second one around, and returns for each round who goes in it.
func walkRounds(people int) [][]int {
	var rounds [][]int
	left := upTo(people)
	counted := 0
	for len(left) > 1 {
		var gone, kept []int
		for _, p := range left {
			if counted++; counted%2 == 0 {
				gone = append(gone, p)
			} else {
				kept = append(kept, p)
			}
		}
		rounds = append(rounds, gone)
		left = kept
	}
	return append(rounds, left)
}

// lateAt goes back to the circle in which the turn is the first one: it needs as many sums as turns.
func lateAt(people, turn int) int {
	at := 1 % (people - turn)
	for n := people - turn + 1; n <= people; n++ {
		at = (at + 2) % n
	}
	return at
}

func TestTwoExample(t *testing.T) {
	n, ok := impl.TwoLast(10)
	wantNumber(t, "TwoLast", n, ok, 4)
	n, ok = impl.GreatestPower(10)
	wantNumber(t, "GreatestPower", n, ok, 8)
	text, ok := impl.BinaryOf(10)
	if !ok || text != "1010" {
		t.Errorf("BinaryOf: got %q, %v", text, ok)
	}
	n, ok = impl.TurnBinary(10, 1)
	wantNumber(t, "TurnBinary", n, ok, 5)
	list, ok := impl.TwoFirst(10, 10)
	wantList(t, "TwoFirst", list, ok, []int{1, 3, 5, 7, 9, 2, 6, 0, 8, 4})
	list, ok = impl.RoundSizes(10)
	wantList(t, "RoundSizes", list, ok, []int{5, 2, 2, 1})
	list, ok = impl.ChainOf(10)
	wantList(t, "ChainOf", list, ok, []int{10, 5, 3})
	list, ok = impl.CirclesLeaving(4, 20)
	wantList(t, "CirclesLeaving", list, ok, []int{6, 10, 18})
	n, ok = impl.TwoTurn(10, 4)
	wantNumber(t, "TwoTurn", n, ok, 9)
}

func TestTwoIsTheStepTwo(t *testing.T) {
	for people := 1; people <= impl.MaxPeople; people++ {
		name := fmt.Sprintf("%d people", people)
		order, _ := impl.OrderOut(people, 2)
		if walked := walkOut(people, 2, 0, 1); !slices.Equal(order, walked) {
			t.Fatalf("OrderOut of %s: got %v, want %v", name, order, walked)
		}
		n, ok := impl.TwoLast(people)
		wantNumber(t, "TwoLast of "+name, n, ok, order[people-1])
		for count := 0; count <= people; count++ {
			list, ok := impl.TwoFirst(people, count)
			wantList(t, fmt.Sprintf("TwoFirst %d of %s", count, name), list, ok, order[:count])
		}
		for turn, person := range order {
			n, ok = impl.TwoAt(people, turn)
			wantNumber(t, fmt.Sprintf("TwoAt %d of %s", turn, name), n, ok, person)
			n, ok = impl.TwoTurn(people, person)
			wantNumber(t, fmt.Sprintf("TwoTurn %d of %s", person, name), n, ok, turn)
		}
	}
}

func TestFarCirclesAreAlike(t *testing.T) {
	for people := 1; people <= 3000; people++ {
		n, ok := impl.TwoLast(people)
		far, _ := impl.FarLeft(people, 2)
		wantNumber(t, fmt.Sprintf("TwoLast of %d", people), n, ok, far)
	}
	for _, people := range manyPeople() {
		if far, ok := impl.FarLeft(people, 2); ok {
			n, ok := impl.TwoLast(people)
			wantNumber(t, fmt.Sprintf("TwoLast of %d", people), n, ok, far)
		}
	}
}

func TestManyPeopleGo(t *testing.T) {
	for _, people := range manyPeople() {
		name := fmt.Sprintf("%d people", people)
		last, _ := impl.TwoLast(people)
		n, ok := impl.TwoAt(people, people-1)
		wantNumber(t, "the last turn of "+name, n, ok, last)
		n, ok = impl.TwoTurn(people, last)
		wantNumber(t, "the last one of "+name, n, ok, people-1)
		first, _ := impl.TwoFirst(people, 200)
		for turn := range 200 {
			n, ok = impl.TwoAt(people, turn)
			wantNumber(t, fmt.Sprintf("TwoAt %d of %s", turn, name), n, ok, lateAt(people, turn))
			if len(first) != 200 || first[turn] != n {
				t.Fatalf("TwoFirst of %s: got %v", name, first)
			}
		}
		for _, k := range []int{0, 1, 2, people / 3, people / 2, people/2 + 1, people * 3 / 4, people - 3, people - 2, people - 1} {
			turn, _ := impl.TwoTurn(people, k)
			n, ok = impl.TwoAt(people, turn)
			wantNumber(t, fmt.Sprintf("TwoAt of TwoTurn %d of %s", k, name), n, ok, k)
			person, _ := impl.TwoAt(people, k)
			n, ok = impl.TwoTurn(people, person)
			wantNumber(t, fmt.Sprintf("TwoTurn of TwoAt %d of %s", k, name), n, ok, k)
		}
	}
	for _, turn := range []int{300000, 499999, 500000, 500001, 750000, 999000, 999998, 999999} {
		n, ok := impl.TwoAt(1000000, turn)
		wantNumber(t, fmt.Sprintf("TwoAt %d of a million", turn), n, ok, lateAt(1000000, turn))
	}
}

func TestRoundsAreAsWalked(t *testing.T) {
	for people := 1; people <= 300; people++ {
		name := fmt.Sprintf("%d people", people)
		rounds := walkRounds(people)
		sizes := []int{}
		for number, gone := range rounds {
			sizes = append(sizes, len(gone))
			for _, person := range gone {
				n, ok := impl.TwoRound(people, person)
				wantNumber(t, fmt.Sprintf("TwoRound of %d of %s", person, name), n, ok, number)
			}
		}
		list, ok := impl.RoundSizes(people)
		wantList(t, "RoundSizes of "+name, list, ok, sizes)
		n, ok := impl.CountRounds(people)
		wantNumber(t, "CountRounds of "+name, n, ok, len(rounds))
	}
}

func TestRoundsOfManyHaveEachOnce(t *testing.T) {
	for _, people := range manyPeople() {
		name := fmt.Sprintf("%d people", people)
		sizes, ok := impl.RoundSizes(people)
		sum, before := 0, 0
		for number, size := range sizes {
			sum += size
			for _, turn := range []int{before, before + size - 1} {
				person, _ := impl.TwoAt(people, turn)
				n, found := impl.TwoRound(people, person)
				wantNumber(t, fmt.Sprintf("TwoRound of %d of %s", person, name), n, found, number)
			}
			before += size
		}
		wantNumber(t, "all rounds of "+name, sum, ok, people)
		if len(sizes) > 0 && sizes[len(sizes)-1] != 1 {
			t.Errorf("the last round of %s has %d", name, sizes[len(sizes)-1])
		}
		n, ok := impl.CountRounds(people)
		wantNumber(t, "CountRounds of "+name, n, ok, len(sizes))
	}
	list, ok := impl.RoundSizes(1)
	wantList(t, "RoundSizes of one", list, ok, []int{1})
	list, ok = impl.RoundSizes(2)
	wantList(t, "RoundSizes of two", list, ok, []int{1, 1})
}

func TestPowersTellWhoIsLeft(t *testing.T) {
	for people, power := 1, 1; people <= 5000; people++ {
		if people == 2*power {
			power = people
		}
		n, ok := impl.GreatestPower(people)
		wantNumber(t, fmt.Sprintf("GreatestPower of %d", people), n, ok, power)
	}
	for _, people := range manyPeople() {
		power, ok := impl.GreatestPower(people)
		if !ok || power > people || 2*power <= people || power&(power-1) != 0 {
			t.Errorf("GreatestPower of %d: got %d, %v", people, power, ok)
		}
		n, ok := impl.TwoLast(people)
		wantNumber(t, fmt.Sprintf("TwoLast of %d", people), n, ok, 2*(people-power))
	}
	n, ok := impl.GreatestPower(impl.MaxMany)
	wantNumber(t, "GreatestPower of MaxMany", n, ok, 549755813888)
	n, ok = impl.TwoLast(impl.MaxMany)
	wantNumber(t, "TwoLast of MaxMany", n, ok, 900488372224)
}

// bothPeople are small numbers of people and great ones.
func bothPeople() []int {
	both := manyPeople()
	for n := 1; n <= 300; n++ {
		both = append(both, n)
	}
	return both
}

func TestDigitsLeadBack(t *testing.T) {
	for _, n := range bothPeople() {
		digits := ""
		for rest := n; rest > 0; rest /= 2 {
			digits = string(rune('0'+rest%2)) + digits
		}
		text, ok := impl.BinaryOf(n)
		if !ok || text != digits {
			t.Errorf("BinaryOf %d: got %q, %v, want %q", n, text, ok, digits)
		}
		back, ok := impl.NumberOfBinary(digits)
		wantNumber(t, "NumberOfBinary of "+digits, back, ok, n)
	}
	limit := "1110100011010100101001010001000000000000"
	n, ok := impl.NumberOfBinary(limit)
	wantNumber(t, "NumberOfBinary of the limit", n, ok, impl.MaxMany)
	n, ok = impl.NumberOfBinary("1" + strings.Repeat("0", 39))
	wantNumber(t, "NumberOfBinary of 40 digits", n, ok, 549755813888)
}

func TestTextsThatAreNoDigits(t *testing.T) {
	for _, s := range []string{
		"", "0", "00", "01", "0101", "2", "12", "1a", "a1", "-1", "+1", "1 ", " 1", "1\n", "10.", "1_0", "0b1", "1,0", "1/", "1:",
		"1\x00", "1\xb1", "\xff", "1\xff", "1\u00b9", "\u0661", "1\u0660", "１", "1\u0130",
		"1110100011010100101001010001000000000001", strings.Repeat("1", 40), strings.Repeat("1", 41),
		"1" + strings.Repeat("0", 40), "1" + strings.Repeat("0", 63), "1" + strings.Repeat("0", 64), strings.Repeat("0", 40),
		"0" + strings.Repeat("1", 39), "0" + strings.Repeat("1", 40), strings.Repeat("10", 100000),
	} {
		n, ok := impl.NumberOfBinary(s)
		failsNumber(t, fmt.Sprintf("NumberOfBinary of %.50q", s), n, ok)
	}
	for at := range 40 {
		for _, letter := range []string{"2", "/", "a", "\x80"} {
			s := "1" + strings.Repeat("0", 39)
			n, ok := impl.NumberOfBinary(s[:at] + letter + s[at+1:])
			failsNumber(t, fmt.Sprintf("NumberOfBinary with %q at %d", letter, at), n, ok)
		}
	}
}

func TestDigitsAreTurned(t *testing.T) {
	for _, n := range bothPeople() {
		digits := strconv.FormatInt(int64(n), 2)
		for times := 0; times <= 100; times++ {
			turned, _ := strconv.ParseInt(digits, 2, 64)
			got, ok := impl.TurnBinary(n, times)
			wantNumber(t, fmt.Sprintf("TurnBinary of %d, %d times", n, times), got, ok, int(turned))
			digits = digits[1:] + digits[:1]
		}
		last, _ := impl.TwoLast(n)
		got, ok := impl.TurnBinary(n, 1)
		wantNumber(t, fmt.Sprintf("TurnBinary of %d", n), got, ok, last+1)
	}
	// Turned digits keep their number: only those in the result lose a 0 at the beginning.
	n, ok := impl.TurnBinary(10, 2)
	wantNumber(t, "1010 turned twice", n, ok, 10)
	n, ok = impl.TurnBinary(8, 1)
	wantNumber(t, "1000 turned once", n, ok, 1)
	n, ok = impl.TurnBinary(8, 3)
	wantNumber(t, "1000 turned three times", n, ok, 4)
	n, ok = impl.TurnBinary(1, 100)
	wantNumber(t, "1 turned 100 times", n, ok, 1)
	n, ok = impl.TurnBinary(824633720831, 2)
	wantNumber(t, "1011.. turned twice", n, ok, 1099511627774)
}

func TestChainsEndBeforeOneComesAgain(t *testing.T) {
	for _, n := range bothPeople() {
		want := []int{}
		for at := n; !slices.Contains(want, at); {
			want = append(want, at)
			last, _ := impl.TwoLast(at)
			at = last + 1
		}
		list, ok := impl.ChainOf(n)
		wantList(t, fmt.Sprintf("ChainOf %d", n), list, ok, want)
		if end := want[len(want)-1]; end&(end+1) != 0 {
			t.Errorf("ChainOf %d ends at %d", n, end)
		}
	}
	list, ok := impl.ChainOf(1)
	wantList(t, "ChainOf 1", list, ok, []int{1})
	list, ok = impl.ChainOf(1 << 39)
	wantList(t, "ChainOf a power", list, ok, []int{1 << 39, 1})
	list, ok = impl.ChainOf(1<<39 - 1)
	wantList(t, "ChainOf a power less 1", list, ok, []int{1<<39 - 1})
}

// lastByCount tells who is left, by chapter 1, of 0, 1, .. up to most people: -1 if there is nobody.
func lastByCount(most int) []int {
	last := []int{-1}
	for people := 1; people <= most; people++ {
		n, _ := impl.FarLeft(people, 2)
		last = append(last, n)
	}
	return last
}

func TestCirclesThatLeaveAPerson(t *testing.T) {
	last := lastByCount(300)
	for person := 0; person <= 130; person++ {
		want := []int{}
		for limit := 0; limit <= 300; limit++ {
			if last[limit] == person {
				want = append(want, limit)
			}
			list, ok := impl.CirclesLeaving(person, limit)
			wantList(t, fmt.Sprintf("CirclesLeaving %d up to %d", person, limit), list, ok, want)
		}
	}
}

func TestNextCirclesThatLeaveAPerson(t *testing.T) {
	last := lastByCount(700)
	for person := 0; person <= 60; person++ {
		for people := 0; people <= 300; people++ {
			name := fmt.Sprintf("NextLeaving %d behind %d", person, people)
			n, ok := impl.NextLeaving(person, people)
			if person%2 == 1 {
				failsNumber(t, name, n, ok)
				continue
			}
			wantNumber(t, name, n, ok, people+1+slices.Index(last[people+1:], person))
		}
	}
}

func TestCirclesNearTheLimit(t *testing.T) {
	last, _ := impl.TwoLast(impl.MaxMany)
	list, ok := impl.CirclesLeaving(last, impl.MaxMany)
	wantList(t, "the limit", list, ok, []int{impl.MaxMany})
	list, ok = impl.CirclesLeaving(last, impl.MaxMany-1)
	wantList(t, "less than the limit", list, ok, nil)
	list, ok = impl.CirclesLeaving(last+2, impl.MaxMany)
	wantList(t, "more than the limit", list, ok, nil)
	list, ok = impl.CirclesLeaving(impl.MaxMany, impl.MaxMany)
	wantList(t, "the greatest person", list, ok, nil)
	list, ok = impl.CirclesLeaving(impl.MaxMany-1, impl.MaxMany)
	wantList(t, "an odd person", list, ok, nil)
	list, ok = impl.CirclesLeaving(0, 0)
	wantList(t, "no people", list, ok, nil)
	powers := []int{}
	for power := 1; power <= impl.MaxMany; power *= 2 {
		powers = append(powers, power)
	}
	list, ok = impl.CirclesLeaving(0, impl.MaxMany)
	wantList(t, "person 0", list, ok, powers)

	n, ok := impl.NextLeaving(0, 0)
	wantNumber(t, "the first circle", n, ok, 1)
	n, ok = impl.NextLeaving(0, 1<<38)
	wantNumber(t, "behind a power", n, ok, 1<<39)
	n, ok = impl.NextLeaving(last, impl.MaxMany-1)
	wantNumber(t, "up to the limit", n, ok, impl.MaxMany)
	n, ok = impl.NextLeaving(last, impl.MaxMany)
	failsNumber(t, "none behind the limit", n, ok)
	n, ok = impl.NextLeaving(last+2, 0)
	failsNumber(t, "none of at most the limit", n, ok)
	n, ok = impl.NextLeaving(0, 1<<39)
	failsNumber(t, "no power of at most the limit", n, ok)
	n, ok = impl.NextLeaving(impl.MaxMany, 0)
	failsNumber(t, "nobody there", n, ok)
}

func TestManyCirclesLeaveAPerson(t *testing.T) {
	for _, people := range manyPeople() {
		person, _ := impl.TwoLast(people)
		name := fmt.Sprintf("person %d up to %d", person, people)
		list, ok := impl.CirclesLeaving(person, people)
		if !ok || len(list) == 0 || list[len(list)-1] != people {
			t.Fatalf("CirclesLeaving %s: got %v, %v", name, list, ok)
		}
		less, _ := impl.CirclesLeaving(person, people-1)
		wantList(t, "one circle less", less, true, list[:len(list)-1])
		before := 0
		for _, circle := range list {
			last, found := impl.TwoLast(circle)
			wantNumber(t, "the last one of "+name, last, found, person)
			next, found := impl.NextLeaving(person, before)
			wantNumber(t, "NextLeaving of "+name, next, found, circle)
			next, found = impl.NextLeaving(person, circle-1)
			wantNumber(t, "NextLeaving just before, of "+name, next, found, circle)
			before = circle
		}
	}
}

func TestCirclesWithTheLastOne(t *testing.T) {
	last := lastByCount(350)
	for from := 1; from <= 150; from++ {
		want := []int{}
		for count := 0; count <= 200; count++ {
			if people := from + count - 1; count > 0 && last[people] == people-1 {
				want = append(want, people)
			}
			list, ok := impl.CirclesWithLast(from, count)
			wantList(t, fmt.Sprintf("CirclesWithLast %d from %d on", count, from), list, ok, want)
		}
	}
	for power := 256; power <= impl.MaxMany; power *= 2 {
		list, ok := impl.CirclesWithLast(power-100, 200)
		wantList(t, fmt.Sprintf("CirclesWithLast around %d", power), list, ok, []int{power - 1})
		list, ok = impl.CirclesWithLast(power, 200)
		wantList(t, fmt.Sprintf("CirclesWithLast from %d on", power), list, ok, nil)
	}
	list, ok := impl.CirclesWithLast(impl.MaxMany-199, 200)
	wantList(t, "up to the limit", list, ok, nil)
	list, ok = impl.CirclesWithLast(impl.MaxMany, 1)
	wantList(t, "the limit alone", list, ok, nil)
	list, ok = impl.CirclesWithLast(impl.MaxMany, 0)
	wantList(t, "none at the limit", list, ok, nil)
	list, ok = impl.CirclesWithLast(impl.MaxMany, 2)
	failsList(t, "one more than the limit", list, ok)
	list, ok = impl.CirclesWithLast(impl.MaxMany-198, 200)
	failsList(t, "200 beyond the limit", list, ok)
	list, ok = impl.CirclesWithLast(impl.MaxMany+1, 0)
	failsList(t, "none behind the limit", list, ok)
	list, ok = impl.CirclesWithLast(0, 0)
	failsList(t, "none from 0 on", list, ok)
	list, ok = impl.CirclesWithLast(1, 201)
	failsList(t, "201 circles", list, ok)
	list, ok = impl.CirclesWithLast(1, -1)
	failsList(t, "less than no circles", list, ok)
}

func TestSumsOfLast(t *testing.T) {
	sum := 0
	for people := 1; people <= 1000000; people++ {
		last, _ := impl.TwoLast(people)
		sum += last
		if people <= 5000 || people > 999000 || people&(people-1) == 0 || people&(people+1) == 0 {
			n, ok := impl.SumOfLast(people)
			wantNumber(t, fmt.Sprintf("SumOfLast %d", people), n, ok, sum)
		}
	}
	n, ok := impl.SumOfLast(10)
	wantNumber(t, "SumOfLast 10", n, ok, 0+0+2+0+2+4+6+0+2+4)
	for _, people := range []int{math.MinInt, -1, 0, 1000001, impl.MaxMany, math.MaxInt} {
		n, ok := impl.SumOfLast(people)
		failsNumber(t, fmt.Sprintf("SumOfLast %d", people), n, ok)
	}
}

func TestNumbersOfPeopleOutOfRange(t *testing.T) {
	for _, people := range []int{math.MinInt, math.MinInt + 1, -1, 0, impl.MaxMany + 1, math.MaxInt - 1, math.MaxInt} {
		name := fmt.Sprintf(" of %d", people)
		n, ok := impl.TwoLast(people)
		failsNumber(t, "TwoLast"+name, n, ok)
		n, ok = impl.GreatestPower(people)
		failsNumber(t, "GreatestPower"+name, n, ok)
		text, ok := impl.BinaryOf(people)
		if ok || text != "" {
			t.Errorf("BinaryOf%s: got %q, %v", name, text, ok)
		}
		n, ok = impl.CountRounds(people)
		failsNumber(t, "CountRounds"+name, n, ok)
		list, ok := impl.RoundSizes(people)
		failsList(t, "RoundSizes"+name, list, ok)
		list, ok = impl.ChainOf(people)
		failsList(t, "ChainOf"+name, list, ok)
		for _, other := range []int{0, 1} {
			n, ok = impl.TurnBinary(people, other)
			failsNumber(t, "TurnBinary"+name, n, ok)
			n, ok = impl.TwoTurn(people, other)
			failsNumber(t, "TwoTurn"+name, n, ok)
			n, ok = impl.TwoAt(people, other)
			failsNumber(t, "TwoAt"+name, n, ok)
			n, ok = impl.TwoRound(people, other)
			failsNumber(t, "TwoRound"+name, n, ok)
			list, ok = impl.TwoFirst(people, other)
			failsList(t, "TwoFirst"+name, list, ok)
			list, ok = impl.CirclesWithLast(people, other)
			failsList(t, "CirclesWithLast"+name, list, ok)
		}
	}
}

func TestPeopleAndTurnsOutOfRange(t *testing.T) {
	for _, people := range []int{1, 2, 3, 10, 64, 199, 200, 201, 1000, impl.MaxMany} {
		for _, k := range []int{math.MinInt, -1, people, people + 1, math.MaxInt} {
			name := fmt.Sprintf(" of %d and %d", people, k)
			n, ok := impl.TwoTurn(people, k)
			failsNumber(t, "TwoTurn"+name, n, ok)
			n, ok = impl.TwoAt(people, k)
			failsNumber(t, "TwoAt"+name, n, ok)
			n, ok = impl.TwoRound(people, k)
			failsNumber(t, "TwoRound"+name, n, ok)
		}
		for _, count := range []int{math.MinInt, -1, min(people, 200) + 1, 201, math.MaxInt} {
			list, ok := impl.TwoFirst(people, count)
			failsList(t, fmt.Sprintf("TwoFirst of %d and %d", people, count), list, ok)
		}
		for _, times := range []int{math.MinInt, -1, 101, math.MaxInt} {
			n, ok := impl.TurnBinary(people, times)
			failsNumber(t, fmt.Sprintf("TurnBinary of %d and %d", people, times), n, ok)
		}
	}
	for _, wrong := range []int{math.MinInt, -2, -1, impl.MaxMany + 1, impl.MaxMany + 2, math.MaxInt} {
		for _, right := range []int{0, 4, impl.MaxMany, wrong} {
			list, ok := impl.CirclesLeaving(wrong, right)
			failsList(t, fmt.Sprintf("CirclesLeaving of %d and %d", wrong, right), list, ok)
			list, ok = impl.CirclesLeaving(right, wrong)
			failsList(t, fmt.Sprintf("CirclesLeaving of %d and %d", right, wrong), list, ok)
			n, ok := impl.NextLeaving(wrong, right)
			failsNumber(t, fmt.Sprintf("NextLeaving of %d and %d", wrong, right), n, ok)
			n, ok = impl.NextLeaving(right, wrong)
			failsNumber(t, fmt.Sprintf("NextLeaving of %d and %d", right, wrong), n, ok)
		}
	}
}
