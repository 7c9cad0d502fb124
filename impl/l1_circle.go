package impl

import (
	"slices"
	"strconv"
	"strings"
)

const MaxPeople = 200
const MaxStep = 1000000
const MaxFar = 1000000

// greatestNumber bounds the numbers by which the people of a ring are told.
const greatestNumber = 999

type Ring struct {
	People []int
	Step   int
}

// person is one of a circle. The place among all people stays the same when others go.
type person struct {
	place  int
	number int
}

func (p person) is(other person) bool { return p == other }

// circle has those who are left, in the order of their places. The embedded person is the one from whom the next turn counts.
type circle struct {
	person
	left []person
	step int
}

// circleOf requires at least one number.
func circleOf(numbers []int, step int) *circle {
	left := make([]person, len(numbers))
	for i, n := range numbers {
		left[i] = person{place: i, number: n}
	}
	return &circle{person: left[0], left: left, step: step}
}

// next returns where in c.left the one stands from whom the next turn counts.
func (c *circle) next() int {
	return slices.IndexFunc(c.left, c.is)
}

// counted returns where in c.left the one stands who is counted out forward.
func (c *circle) counted() int {
	return around(c.next()+c.step-1, len(c.left))
}

// countedBack returns where in c.left the one stands who is counted out backward.
func (c *circle) countedBack() int {
	return around(c.next()-c.step+1, len(c.left))
}

// passTo lets the next turn count from an index in c.left on, which goes around. Somebody has to be left.
func (c *circle) passTo(at int) {
	c.person = c.left[around(at, len(c.left))]
}

// goForward lets the one go who is counted out forward.
func (c *circle) goForward() person {
	at := c.counted()
	return c.letGo(at, at)
}

// goBackward lets the one go who is counted out backward.
func (c *circle) goBackward() person {
	at := c.countedBack()
	return c.letGo(at, at-1)
}

// letGo takes the one at an index out; next is the index, in what remains, from which the next turn counts.
func (c *circle) letGo(at int, next int) person {
	gone := c.left[at]
	c.left = slices.Delete(c.left, at, at+1)
	if len(c.left) > 0 {
		c.passTo(next)
	}
	return gone
}

// fromNext returns the numbers of those who are left, from the one on from whom the next turn counts.
func (c *circle) fromNext() []int {
	at := c.next()
	return append(numbersOf(c.left[at:]), numbersOf(c.left[:at])...)
}

// countOut returns who goes at the first turns; way is the method by which a turn counts.
func countOut(c *circle, turns int, way func(*circle) person) []person {
	gone := make([]person, turns)
	for t := range gone {
		gone[t] = way(c)
	}
	return gone
}

func numbersOf(people []person) []int {
	numbers := make([]int, len(people))
	for i, p := range people {
		numbers[i] = p.number
	}
	return numbers
}

// around returns n modulo size, at least 0 for a negative n as well.
func around(n int, size int) int {
	return (n%size + size) % size
}

// within reports whether n is in least..most.
func within(n int, least int, most int) bool {
	return least <= n && n <= most
}

func isCount(people int, step int) bool {
	return within(people, 1, MaxPeople) && within(step, 1, MaxStep)
}

// firstNumbers returns 0, 1, .., as many as count.
func firstNumbers(count int) []int {
	numbers := make([]int, count)
	for i := range numbers {
		numbers[i] = i
	}
	return numbers
}

// orderOfAll returns the order out of people and a step that are valid.
func orderOfAll(people int, step int) []person {
	return countOut(circleOf(firstNumbers(people), step), people, (*circle).goForward)
}

// outByFormula tells who goes at a turn without an order, for circles or steps that are too many to be counted out:
// the one who goes at a turn of m people is step places behind the one who goes a turn earlier of one less.
func outByFormula(people int, step int, turn int) int {
	out := (step - 1) % (people - turn)
	for m := people - turn + 1; m <= people; m++ {
		out = (out + step) % m
	}
	return out
}

// lastByFormula tells who is left in the same way.
func lastByFormula(people int, step int) int {
	return outByFormula(people, step, people-1)
}

// OrderOut returns the order out.
func OrderOut(people int, step int) ([]int, bool) {
	if !isCount(people, step) {
		return nil, false
	}
	return numbersOf(orderOfAll(people, step)), true
}

// LastLeft returns who is left.
func LastLeft(people int, step int) (int, bool) {
	if !isCount(people, step) {
		return 0, false
	}
	return lastByFormula(people, step), true
}

// FarLeft returns who is left of 1..MaxFar people.
func FarLeft(people int, step int) (int, bool) {
	if !within(people, 1, MaxFar) || !within(step, 1, MaxStep) {
		return 0, false
	}
	return lastByFormula(people, step), true
}

// OutAt returns who goes at a turn.
func OutAt(people int, step int, turn int) (int, bool) {
	if !isCount(people, step) || !within(turn, 0, people-1) {
		return 0, false
	}
	return orderOfAll(people, step)[turn].number, true
}

// TurnOut returns at which turn a person goes.
func TurnOut(people int, step int, person int) (int, bool) {
	if !isCount(people, step) || !within(person, 0, people-1) {
		return 0, false
	}
	return slices.Index(numbersOf(orderOfAll(people, step)), person), true
}

// LeftAfter returns who is left behind so many turns, in 0 up to one less than there are people, from the one on from whom the next turn counts.
func LeftAfter(people int, step int, turns int) ([]int, bool) {
	if !isCount(people, step) || !within(turns, 0, people-1) {
		return nil, false
	}
	c := circleOf(firstNumbers(people), step)
	countOut(c, turns, (*circle).goForward)
	return c.fromNext(), true
}

// LastFrom returns who is left if the first turn counts from the person begin on.
func LastFrom(people int, step int, begin int) (int, bool) {
	if !isCount(people, step) || !within(begin, 0, people-1) {
		return 0, false
	}
	return around(begin+lastByFormula(people, step), people), true
}

// BeginFor returns the person from whom the first turn has to count so that a person is left.
func BeginFor(people int, step int, person int) (int, bool) {
	if !isCount(people, step) || !within(person, 0, people-1) {
		return 0, false
	}
	return around(person-lastByFormula(people, step), people), true
}

// BackOrder returns the order out if people are counted backwards: 0, the last one, and so on.
func BackOrder(people int, step int) ([]int, bool) {
	if !isCount(people, step) {
		return nil, false
	}
	c := circleOf(firstNumbers(people), step)
	return numbersOf(countOut(c, people, (*circle).goBackward)), true
}

// IsRing reports whether r, whose numbers may be any, is a ring.
func IsRing(r Ring) bool {
	if !isCount(len(r.People), r.Step) {
		return false
	}
	var seen [greatestNumber + 1]bool
	for _, n := range r.People {
		if !within(n, 0, greatestNumber) || seen[n] {
			return false
		}
		seen[n] = true
	}
	return true
}

// RingOf returns the ring of people and a step.
func RingOf(people int, step int) (Ring, bool) {
	if !isCount(people, step) {
		return Ring{}, false
	}
	return Ring{People: firstNumbers(people), Step: step}, true
}

// StepRing returns the ring behind a turn, its People from the one on from whom the next turn counts, and who went. It fails if there is one person alone.
func StepRing(r Ring) (Ring, int, bool) {
	if !IsRing(r) || len(r.People) == 1 {
		return Ring{}, 0, false
	}
	c := circleOf(r.People, r.Step)
	gone := c.goForward()
	return Ring{People: c.fromNext(), Step: r.Step}, gone.number, true
}

// RingOrder returns the order out of a ring.
func RingOrder(r Ring) ([]int, bool) {
	if !IsRing(r) {
		return nil, false
	}
	c := circleOf(r.People, r.Step)
	return numbersOf(countOut(c, len(r.People), (*circle).goForward)), true
}

// TurnRing returns the ring with its People from the one in the place places on, in 0 up to one less than there are.
func TurnRing(r Ring, places int) (Ring, bool) {
	if !IsRing(r) || !within(places, 0, len(r.People)-1) {
		return Ring{}, false
	}
	c := circleOf(r.People, r.Step)
	c.person = c.left[places]
	return Ring{People: c.fromNext(), Step: r.Step}, true
}

// GapsOut returns for each turn but the first one how many places in the circle of all people it is from the one who went before on to the one who goes.
func GapsOut(people int, step int) ([]int, bool) {
	if !isCount(people, step) {
		return nil, false
	}
	order := orderOfAll(people, step)
	gaps := make([]int, people-1)
	for i := range gaps {
		gaps[i] = around(order[i+1].place-order[i].place, people)
	}
	return gaps, true
}

// FixedTurns returns all turns at which the person with the same number goes, increasing.
func FixedTurns(people int, step int) ([]int, bool) {
	if !isCount(people, step) {
		return nil, false
	}
	var fixed []int
	for turn, gone := range orderOfAll(people, step) {
		if gone.number == turn {
			fixed = append(fixed, turn)
		}
	}
	return fixed, true
}

// RingText returns Step, @, and the people with , between them.
func RingText(r Ring) (string, bool) {
	if !IsRing(r) {
		return "", false
	}
	return strconv.Itoa(r.Step) + "@" + joinNumbers(r.People, ","), true
}

// ParseRing returns the ring with a RingText. It fails if there is none.
func ParseRing(s string) (Ring, bool) {
	before, behind, found := strings.Cut(s, "@")
	step, hasStep := parseNumber(before, MaxStep)
	people, hasPeople := parseNumbers(behind, ",", MaxPeople, greatestNumber)
	r := Ring{People: people, Step: step}
	if !found || !hasStep || !hasPeople || !IsRing(r) {
		return Ring{}, false
	}
	return r, true
}

func joinNumbers(numbers []int, between string) string {
	texts := make([]string, len(numbers))
	for i, n := range numbers {
		texts[i] = strconv.Itoa(n)
	}
	return strings.Join(texts, between)
}

// parseNumber takes a number in 0..most only as it is written, without a sign or superfluous zeros.
func parseNumber(s string, most int) (int, bool) {
	n, err := strconv.Atoi(s)
	if err != nil || !within(n, 0, most) || strconv.Itoa(n) != s {
		return 0, false
	}
	return n, true
}

// parseNumbers takes 1..count numbers, each in 0..most, with a text between them.
func parseNumbers(s string, between string, count int, most int) ([]int, bool) {
	// One part more than allowed is enough to refuse a list, however long it is.
	parts := strings.SplitN(s, between, count+1)
	if len(parts) > count {
		return nil, false
	}
	numbers := make([]int, len(parts))
	for i, part := range parts {
		n, ok := parseNumber(part, most)
		if !ok {
			return nil, false
		}
		numbers[i] = n
	}
	return numbers, true
}
