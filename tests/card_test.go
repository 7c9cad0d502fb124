package tests

import (
	"fmt"
	"math"
	"regexp"
	"slices"
	"strings"
	"testing"

	"loop.example/g01295/impl"
)

// someCards returns different cards that follow a rule without much order: 457 and 1000 have no common divisor.
func someCards(cards, seed int) []int {
	deck := []int{}
	for i := range cards {
		deck = append(deck, (i*457+seed)%1000)
	}
	return deck
}

// someCounts returns counts, each at most as great as most, that follow a rule without much order.
func someCounts(cards, most, seed int) []int {
	counts := []int{}
	for z := seed; len(counts) < cards; {
		z = (z*157 + 2207) % 10007
		counts = append(counts, z%(most+1))
	}
	return counts
}

// dealCards moves one card after the other, as the document says it.
func dealCards(deck, counts []int) []int {
	left := slices.Clone(deck)
	laid := []int{}
	for _, under := range counts {
		for range under {
			left = append(left[1:], left[0])
		}
		laid = append(laid, left[0])
		left = left[1:]
	}
	return laid
}

func even(cards, under int) []int { return slices.Repeat([]int{under}, cards) }

// undersFor are numbers of cards under that matter for a deck of so many cards.
func undersFor(cards int) []int {
	unders := []int{0, 1, 2, 3, 7, 20, cards - 1, cards, cards + 1, 2*cards - 1, 300, 999, 1000}
	slices.Sort(unders)
	return slices.Compact(unders)
}

// eachDeal calls f for decks of all sizes.
func eachDeal(f func(name string, deck []int, under int)) {
	for cards := 1; cards <= impl.MaxDeck; cards++ {
		for _, under := range undersFor(cards) {
			f(fmt.Sprintf(" of %d with %d", cards, under), someCards(cards, cards+under), under)
		}
	}
}

func TestCardExample(t *testing.T) {
	deck := []int{0, 1, 2, 3}
	list, ok := impl.DealDeck(deck, 1)
	wantList(t, "DealDeck", list, ok, []int{1, 3, 2, 0})
	list, ok = impl.DeckFor(deck, 1)
	wantList(t, "DeckFor", list, ok, []int{3, 0, 2, 1})
	n, ok := impl.DealsToReturn(4, 1)
	wantNumber(t, "DealsToReturn", n, ok, 3)
	list, ok = impl.SpellCounts("one two three")
	wantList(t, "SpellCounts", list, ok, []int{3, 3, 5})
	list, ok = impl.MilkDeck(deck)
	wantList(t, "MilkDeck", list, ok, []int{1, 2, 0, 3})
	list, ok = impl.MongeDeck(deck)
	wantList(t, "MongeDeck", list, ok, []int{3, 1, 0, 2})
}

func TestDealsAreCardByCard(t *testing.T) {
	eachDeal(func(name string, deck []int, under int) {
		counts := even(len(deck), under)
		laid := dealCards(deck, counts)
		list, ok := impl.DealDeck(deck, under)
		wantList(t, "DealDeck"+name, list, ok, laid)
		list, ok = impl.DealCounts(deck, counts)
		wantList(t, "DealCounts"+name, list, ok, laid)
		n, ok := impl.LastDealt(len(deck), under)
		wantNumber(t, "LastDealt"+name, n, ok, slices.Index(deck, laid[len(deck)-1]))
		counts[0] = 0
		list, ok = impl.DealFirst(deck, under)
		wantList(t, "DealFirst"+name, list, ok, dealCards(deck, counts))
	})
}

func TestDecksForOrders(t *testing.T) {
	eachDeal(func(name string, order []int, under int) {
		deck, ok := impl.DeckFor(order, under)
		wantList(t, "DeckFor"+name, dealCards(deck, even(len(deck), under)), ok, order)
		list, ok := impl.DealDeck(deck, under)
		wantList(t, "DealDeck of DeckFor"+name, list, ok, order)
		list, ok = impl.DeckForCounts(order, even(len(order), under))
		wantList(t, "DeckForCounts"+name, list, ok, deck)
		list, _ = impl.DealDeck(order, under)
		list, ok = impl.DeckFor(list, under)
		wantList(t, "DeckFor of DealDeck"+name, list, ok, order)
	})
}

func TestDecksForOrdersWithCounts(t *testing.T) {
	for cards := 1; cards <= impl.MaxDeck; cards++ {
		for _, most := range []int{0, 1, 2, cards, 1000} {
			order, counts := someCards(cards, most), someCounts(cards, most, cards)
			name := fmt.Sprint(" of ", order, counts)
			list, ok := impl.DealCounts(order, counts)
			wantList(t, "DealCounts"+name, list, ok, dealCards(order, counts))
			deck, ok := impl.DeckForCounts(order, counts)
			wantList(t, "DeckForCounts"+name, dealCards(deck, counts), ok, order)
			list, ok = impl.DealCounts(deck, counts)
			wantList(t, "DealCounts of DeckForCounts"+name, list, ok, order)
		}
	}
	counts := []int{0, 1000, 0, 1000}
	list, ok := impl.DealCounts([]int{0, 1, 2, 3}, counts)
	wantList(t, "DealCounts of 0 and 1000", list, ok, []int{0, 2, 3, 1})
	list, ok = impl.DeckForCounts([]int{0, 2, 3, 1}, counts)
	wantList(t, "DeckForCounts of 0 and 1000", list, ok, []int{0, 1, 2, 3})
}

func TestDealingGoesAsCountingOut(t *testing.T) {
	for cards := 1; cards <= impl.MaxDeck; cards++ {
		for _, under := range undersFor(cards) {
			name := fmt.Sprintf(" of %d with %d", cards, under)
			order, _ := impl.OrderOut(cards, under+1)
			list, ok := impl.DealDeck(upTo(cards), under)
			wantList(t, "DealDeck"+name, list, ok, order)
			last, _ := impl.LastLeft(cards, under+1)
			n, ok := impl.LastDealt(cards, under)
			wantNumber(t, "LastDealt"+name, n, ok, last)
		}
	}
}

func TestCardsAreSpelled(t *testing.T) {
	for words := 1; words <= impl.MaxDeck; words++ {
		counts, spelled := someCounts(words, 19, words), []string{}
		for i := range counts {
			counts[i]++
			spelled = append(spelled, strings.Repeat(string(rune('a'+counts[i])), counts[i]))
		}
		text := strings.Join(spelled, " ")
		list, ok := impl.SpellCounts(text)
		wantList(t, "SpellCounts of "+text, list, ok, counts)
		order := someCards(words, words)
		deck, ok := impl.SpellDeck(order, text)
		wantList(t, "SpellDeck of "+text, dealCards(deck, counts), ok, order)
	}
	for _, letters := range []int{1, 20} {
		for _, words := range []int{1, impl.MaxDeck} {
			text := strings.TrimSuffix(strings.Repeat(strings.Repeat("z", letters)+" ", words), " ")
			list, ok := impl.SpellCounts(text)
			wantList(t, "SpellCounts of "+text, list, ok, even(words, letters))
			order := upTo(words)
			list, ok = impl.SpellDeck(order, text)
			deck, _ := impl.DeckFor(order, letters)
			wantList(t, "SpellDeck of "+text, list, ok, deck)
		}
	}
	list, ok := impl.SpellCounts("abcdefghijklm nopqrstuvwxyz")
	wantList(t, "SpellCounts of all letters", list, ok, []int{13, 13})
}

// noTexts are no texts of words.
func noTexts() []string {
	long := strings.Repeat("a", 21)
	texts := []string{
		"", " ", "  ", " one", "one ", "one  two", " one two", "one two ", "one two  three", "\tone", "one\ttwo", "one\n", "\n", "\x00", "one\x00",
		"One", "oNe two", "one Two", "on3", "1", "one-two", "one,two", "one.", "`", "{", "a`", "a{", "@", "[", "é", "ａ", "one ünf", "one\xff", "\xff", "one\u00a0two", "one\u2003two",
		long, long + " one", "one " + long, "one " + long + " two", strings.Repeat("a", 1000000),
		strings.Repeat("a ", impl.MaxDeck) + "a", strings.Repeat("a ", impl.MaxDeck), strings.Repeat("one ", 1000000) + "one", strings.Repeat(" ", 1000000), strings.Repeat(" a", 1000000),
		strings.Repeat("é", 10), strings.Repeat("é", 20),
	}
	return texts
}

func TestTextsOfNoWords(t *testing.T) {
	for _, s := range noTexts() {
		list, ok := impl.SpellCounts(s)
		failsList(t, fmt.Sprintf("SpellCounts of %.60q", s), list, ok)
		for _, cards := range []int{1, 2, 3, impl.MaxDeck} {
			list, ok = impl.SpellDeck(upTo(cards), s)
			failsList(t, fmt.Sprintf("SpellDeck of %.60q", s), list, ok)
		}
	}
	text := strings.Repeat("a ", impl.MaxDeck)
	list, ok := impl.SpellCounts(text[:len(text)-1])
	wantList(t, "as many words as may be", list, ok, even(impl.MaxDeck, 1))
}

// TestChangedTextsOfWords changes single bytes of a text that has a word as long as may be.
func TestChangedTextsOfWords(t *testing.T) {
	words := regexp.MustCompile(`\A[a-z]{1,20}( [a-z]{1,20})*\z`)
	base := "az b abcdefghijklmnopqrst yz"
	for at := 0; at <= len(base); at++ {
		for b := range 256 {
			texts := []string{base[:at] + string([]byte{byte(b)}) + base[at:]}
			if at < len(base) {
				texts = append(texts, base[:at]+string([]byte{byte(b)})+base[at+1:], base[:at]+base[at+1:])
			}
			for _, s := range texts {
				list, ok := impl.SpellCounts(s)
				if !words.MatchString(s) {
					failsList(t, "SpellCounts of "+s, list, ok)
					continue
				}
				counts := []int{}
				for _, word := range strings.Fields(s) {
					counts = append(counts, len(word))
				}
				wantList(t, "SpellCounts of "+s, list, ok, counts)
			}
		}
	}
}

func TestDealsAreRepeated(t *testing.T) {
	for _, cards := range []int{1, 2, 3, 4, 9, 52, impl.MaxDeck} {
		for _, under := range undersFor(cards) {
			deck := someCards(cards, under)
			dealt, counts := slices.Clone(deck), even(cards, under)
			for times := 0; times <= 100; times++ {
				list, ok := impl.DealTimes(deck, under, times)
				wantList(t, fmt.Sprintf("DealTimes of %d with %d, %d times", cards, under, times), list, ok, dealt)
				dealt = dealCards(dealt, counts)
			}
		}
	}
}

// repeat returns what is in the places when a change, told by the place from which each place is filled, is made n times.
func repeat(change []int, n int) []int {
	result, power := upTo(len(change)), change
	for ; n > 0; n /= 2 {
		if n%2 == 1 {
			result = follow(result, power)
		}
		power = follow(power, power)
	}
	return result
}

func follow(first, second []int) []int {
	both := []int{}
	for _, place := range second {
		both = append(both, first[place])
	}
	return both
}

// wantReturn checks that a change is back after n times, and not before: the least number divides n, and is n if no n/p will do.
func wantReturn(t *testing.T, name string, change []int, n int, ok bool) {
	t.Helper()
	still := upTo(len(change))
	if !ok || n < 1 || !slices.Equal(repeat(change, n), still) {
		t.Errorf("%s: not back after %d, %v", name, n, ok)
		return
	}
	for p, rest := 2, n; rest > 1; p++ {
		for ; rest%p == 0; rest /= p {
			if slices.Equal(repeat(change, n/p), still) {
				t.Errorf("%s: back after %d, not only after %d", name, n/p, n)
				return
			}
		}
	}
}

func TestDealsBringDecksBack(t *testing.T) {
	for cards := 1; cards <= impl.MaxDeck; cards++ {
		for _, under := range undersFor(cards) {
			n, ok := impl.DealsToReturn(cards, under)
			name := fmt.Sprintf("DealsToReturn of %d with %d", cards, under)
			wantReturn(t, name, dealCards(upTo(cards), even(cards, under)), n, ok)
			if under == 0 {
				wantNumber(t, name, n, ok, 1)
			}
		}
	}
	n, ok := impl.DealsToReturn(1, 1000)
	wantNumber(t, "DealsToReturn of one card", n, ok, 1)
}

// TestDealsAreNotBackBefore deals again and again, with no thought of what divides what.
func TestDealsAreNotBackBefore(t *testing.T) {
	for cards := 1; cards <= 15; cards++ {
		for under := 0; under <= 2*cards; under++ {
			n, ok := impl.DealsToReturn(cards, under)
			deck, times := someCards(cards, 3), 0
			for dealt := deck; times == 0 || !slices.Equal(dealt, deck); times++ {
				dealt, _ = impl.DealTimes(dealt, under, 1)
			}
			wantNumber(t, fmt.Sprintf("DealsToReturn of %d with %d", cards, under), n, ok, times)
			if n <= 100 {
				list, ok := impl.DealTimes(deck, under, n)
				wantList(t, "DealTimes of DealsToReturn", list, ok, deck)
			}
		}
	}
}

// mostChanges returns the greatest least common multiple of numbers that are at most so many together: no change of so many cards is back only later.
func mostChanges(cards int) int {
	most := slices.Repeat([]int{1}, cards+1)
	for p := 2; p <= cards; p++ {
		if slices.ContainsFunc(upTo(p), func(d int) bool { return d > 1 && p%d == 0 }) {
			continue
		}
		for together := cards; together >= p; together-- {
			for power := p; power <= together; power *= p {
				most[together] = max(most[together], power*most[together-power])
			}
		}
	}
	return most[cards]
}

// TestReturnsAreNeverTooGreat: the bound of 1000000000 makes no call fail, as no deck of MaxDeck cards can reach it.
func TestReturnsAreNeverTooGreat(t *testing.T) {
	wantNumber(t, "what could be reached", mostChanges(impl.MaxDeck), true, 446185740)
	greatest := 0
	for cards := 1; cards <= impl.MaxDeck; cards++ {
		for under := 0; under <= 1000; under++ {
			n, ok := impl.DealsToReturn(cards, under)
			if !ok || n < 1 {
				t.Errorf("DealsToReturn of %d with %d: got %d, %v", cards, under, n, ok)
			}
			greatest = max(greatest, n)
		}
	}
	n, ok := impl.DealsToReturn(98, 703)
	wantNumber(t, "the greatest of all", n, ok, greatest)
	wantReturn(t, "the greatest of all", dealCards(upTo(98), even(98, 703)), n, ok)
}

func TestDecksAreCut(t *testing.T) {
	for cards := 1; cards <= impl.MaxDeck; cards++ {
		deck := someCards(cards, 5)
		for at := 0; at <= cards; at++ {
			name := fmt.Sprintf("CutDeck of %d at %d", cards, at)
			want := slices.Clone(deck)
			for range at {
				want = append(want[1:], want[0])
			}
			cut, ok := impl.CutDeck(deck, at)
			wantList(t, name, cut, ok, want)
			list, ok := impl.CutDeck(cut, cards-at)
			wantList(t, name+" and the rest", list, ok, deck)
		}
		for _, at := range []int{math.MinInt, -cards, -1, cards + 1, 2 * cards, math.MaxInt} {
			list, ok := impl.CutDeck(deck, at)
			failsList(t, fmt.Sprintf("CutDeck of %d at %d", cards, at), list, ok)
		}
	}
}

// backWay, milkWay and mongeWay return the cards in the order that a shuffle gives them, told otherwise than by taking one after the other.
func backWay(deck []int) []int {
	back := []int{}
	for i := range deck {
		back = append(back, deck[len(deck)-1-i])
	}
	return back
}

// milkWay: from the top on there are the middle ones and then pairs ever farther outside.
func milkWay(deck []int) []int {
	n := len(deck)
	milked := []int{}
	if n%2 == 1 {
		milked = append(milked, deck[n/2])
	}
	for i := n/2 - 1; i >= 0; i-- {
		milked = append(milked, deck[i], deck[n-1-i])
	}
	return milked
}

// mongeWay: the cards in odd places are above, the last one of them on top, and the other ones below.
func mongeWay(deck []int) []int {
	above, below := []int{}, []int{}
	for i, card := range deck {
		if i%2 == 1 {
			above = append(above, card)
		} else {
			below = append(below, card)
		}
	}
	return append(backWay(above), below...)
}

func TestDecksAreShuffled(t *testing.T) {
	ways := []func([]int) []int{milkWay, mongeWay, backWay}
	calls := []func([]int) ([]int, bool){impl.MilkDeck, impl.MongeDeck, impl.BackDeck}
	for kind, call := range calls {
		for cards := 1; cards <= impl.MaxDeck; cards++ {
			name := fmt.Sprintf("shuffle %d of %d", kind, cards)
			deck := someCards(cards, 11)
			list, ok := call(deck)
			wantList(t, name, list, ok, ways[kind](deck))
			slices.Sort(list)
			sorted := slices.Clone(deck)
			slices.Sort(sorted)
			wantList(t, name+", the same cards", list, ok, sorted)
		}
	}
	list, ok := impl.MilkDeck([]int{0, 1, 2, 3, 4})
	wantList(t, "MilkDeck with one alone", list, ok, []int{2, 1, 3, 0, 4})
	list, ok = impl.MongeDeck([]int{0, 1, 2, 3, 4})
	wantList(t, "MongeDeck of five", list, ok, []int{3, 1, 0, 2, 4})
	list, ok = impl.BackDeck([]int{999, 0, 5})
	wantList(t, "BackDeck", list, ok, []int{5, 0, 999})
	list, ok = impl.BackDeck(list)
	wantList(t, "BackDeck of BackDeck", list, ok, []int{999, 0, 5})
}

func TestShufflesBringDecksBack(t *testing.T) {
	calls := []func([]int) ([]int, bool){impl.MilkDeck, impl.MongeDeck, impl.BackDeck}
	for kind, call := range calls {
		for cards := 1; cards <= impl.MaxDeck; cards++ {
			deck := someCards(cards, 2)
			name := fmt.Sprintf("ShufflesToReturn of %d, kind %d", cards, kind)
			n, ok := impl.ShufflesToReturn(cards, kind)
			shuffled, times := slices.Clone(deck), 0
			for times == 0 || times < 1000 && !slices.Equal(shuffled, deck) {
				shuffled, _ = call(shuffled)
				times++
			}
			wantNumber(t, name, n, ok, times)
			change, _ := call(upTo(cards))
			wantReturn(t, name, change, n, ok)
			if kind == 2 {
				wantNumber(t, name, n, ok, min(cards, 2))
			}
		}
		n, ok := impl.ShufflesToReturn(1, kind)
		wantNumber(t, "ShufflesToReturn of one card", n, ok, 1)
	}
	for _, c := range [][2]int{
		{0, 0}, {-1, 0}, {math.MinInt, 1}, {impl.MaxDeck + 1, 0}, {impl.MaxDeck + 1, 1}, {impl.MaxDeck + 1, 2}, {math.MaxInt, 2},
		{4, -1}, {4, 3}, {4, math.MinInt}, {4, math.MaxInt}, {1, 3}, {impl.MaxDeck, -1}, {0, 3},
	} {
		n, ok := impl.ShufflesToReturn(c[0], c[1])
		failsNumber(t, fmt.Sprint("ShufflesToReturn of ", c), n, ok)
	}
}

// goodDecks are decks at the limits.
func goodDecks() [][]int {
	return [][]int{
		{0}, {999}, {5}, {0, 999}, {999, 0}, {3, 2, 1}, {0, 1, 2, 3},
		upTo(impl.MaxDeck), someCards(impl.MaxDeck, 0), someCards(impl.MaxDeck, 999), someCards(52, 7),
	}
}

// noDecks are no decks.
func noDecks() [][]int {
	bad := [][]int{
		nil, {}, {-1}, {1000}, {math.MinInt}, {math.MaxInt}, {0, -1}, {-1, 0}, {1000, 0}, {0, 1000}, {math.MinInt, 1}, {1, math.MaxInt},
		{0, 0}, {1, 2, 1}, {1, 2, 2}, {999, 3, 999}, {-1, -1}, extremes,
		upTo(impl.MaxDeck + 1), someCards(impl.MaxDeck+1, 0), someCards(1000, 0), even(1000000, 1),
	}
	equal := upTo(impl.MaxDeck)
	equal[impl.MaxDeck-1] = 0
	low, high := upTo(impl.MaxDeck), upTo(impl.MaxDeck)
	low[50], high[impl.MaxDeck-1] = -1, 1000
	return append(bad, equal, low, high)
}

func TestDecks(t *testing.T) {
	wantNumber(t, "MaxDeck", impl.MaxDeck, impl.IsDeck(upTo(104)) && !impl.IsDeck(upTo(105)), 104)
	for _, deck := range goodDecks() {
		if !impl.IsDeck(deck) {
			t.Error("no deck:", deck)
		}
		list, ok := impl.DealDeck(deck, 1000)
		wantList(t, "DealDeck", list, ok, dealCards(deck, even(len(deck), 1000)))
	}
	for _, deck := range noDecks() {
		if impl.IsDeck(deck) {
			t.Error("a deck of cards:", len(deck))
		}
	}
}

// failsOfDeck wants all functions to fail for a deck, whatever else they are given.
func failsOfDeck(t *testing.T, deck []int) {
	t.Helper()
	name := fmt.Sprintf(" of %d cards", len(deck))
	for _, under := range []int{0, 1, 1000, -1, 1001} {
		failsUnder(t, deck, under)
	}
	for _, counts := range [][]int{nil, {}, {0}, {1, 1}, even(len(deck), 0), even(len(deck), 1), even(len(deck), 1000)} {
		failsCounts(t, deck, counts)
	}
	for _, at := range []int{-1, 0, 1, len(deck), len(deck) + 1} {
		list, ok := impl.CutDeck(deck, at)
		failsList(t, "CutDeck"+name, list, ok)
	}
	for _, call := range []func([]int) ([]int, bool){impl.BackDeck, impl.MilkDeck, impl.MongeDeck} {
		list, ok := call(deck)
		failsList(t, "a shuffle"+name, list, ok)
	}
	words := strings.TrimSuffix(strings.Repeat("abc ", len(deck)), " ")
	for _, text := range []string{words, "one", "one two", ""} {
		list, ok := impl.SpellDeck(deck, text)
		failsList(t, "SpellDeck"+name, list, ok)
	}
}

// failsUnder wants all functions to fail for a deck and a number of cards under.
func failsUnder(t *testing.T, deck []int, under int) {
	t.Helper()
	name := fmt.Sprintf(" of %d with %d", len(deck), under)
	for _, call := range []func([]int, int) ([]int, bool){impl.DealDeck, impl.DeckFor, impl.DealFirst} {
		list, ok := call(deck, under)
		failsList(t, "a deal"+name, list, ok)
	}
	for _, times := range []int{0, 1, 100} {
		list, ok := impl.DealTimes(deck, under, times)
		failsList(t, "DealTimes"+name, list, ok)
	}
}

func failsCounts(t *testing.T, deck, counts []int) {
	t.Helper()
	name := fmt.Sprintf(" of %d cards and %d counts", len(deck), len(counts))
	list, ok := impl.DealCounts(deck, counts)
	failsList(t, "DealCounts"+name, list, ok)
	list, ok = impl.DeckForCounts(deck, counts)
	failsList(t, "DeckForCounts"+name, list, ok)
}

func TestNoDecks(t *testing.T) {
	for _, deck := range noDecks() {
		failsOfDeck(t, deck)
	}
}

func TestUndersOutOfRange(t *testing.T) {
	for _, under := range []int{math.MinInt, math.MinInt + 1, -1001, -104, -1, 1001, 1002, math.MaxInt - 1, math.MaxInt} {
		for _, deck := range goodDecks() {
			failsUnder(t, deck, under)
			n, ok := impl.DealsToReturn(len(deck), under)
			failsNumber(t, "DealsToReturn", n, ok)
			n, ok = impl.LastDealt(len(deck), under)
			failsNumber(t, "LastDealt", n, ok)
		}
	}
	for _, cards := range []int{math.MinInt, -104, -1, 0, impl.MaxDeck + 1, 1000, math.MaxInt} {
		for _, under := range []int{-1, 0, 1, 1000, 1001, math.MaxInt} {
			n, ok := impl.DealsToReturn(cards, under)
			failsNumber(t, fmt.Sprintf("DealsToReturn of %d with %d", cards, under), n, ok)
			n, ok = impl.LastDealt(cards, under)
			failsNumber(t, fmt.Sprintf("LastDealt of %d with %d", cards, under), n, ok)
		}
	}
}

func TestCountsOutOfRange(t *testing.T) {
	for _, deck := range goodDecks() {
		for _, cards := range []int{0, len(deck) - 1, len(deck) + 1, 2 * len(deck), 100000} {
			failsCounts(t, deck, even(cards, 1))
		}
		failsCounts(t, deck, nil)
		for _, under := range []int{math.MinInt, -1, 1001, math.MaxInt} {
			for _, at := range []int{0, len(deck) / 2, len(deck) - 1} {
				counts := even(len(deck), 1)
				counts[at] = under
				failsCounts(t, deck, counts)
			}
		}
	}
}

func TestTimesOutOfRange(t *testing.T) {
	for _, deck := range goodDecks() {
		for _, times := range []int{math.MinInt, -100, -1, 101, 102, math.MaxInt} {
			for _, under := range []int{0, 1, 1000} {
				list, ok := impl.DealTimes(deck, under, times)
				failsList(t, fmt.Sprintf("DealTimes %d", times), list, ok)
			}
		}
	}
}

func TestAsManyWordsAsCards(t *testing.T) {
	for _, deck := range goodDecks() {
		for _, words := range []int{1, 2, len(deck) - 1, len(deck) + 1, impl.MaxDeck} {
			if words < 1 || words == len(deck) {
				continue
			}
			text := strings.TrimSuffix(strings.Repeat("ab ", words), " ")
			list, ok := impl.SpellDeck(deck, text)
			failsList(t, fmt.Sprintf("SpellDeck of %d by %d words", len(deck), words), list, ok)
		}
	}
}
