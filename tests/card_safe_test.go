package tests

import (
	"slices"
	"testing"

	"loop.example/g01295/impl"
)

// callDeck calls all functions of the chapter that take a deck, and returns all lists of their results.
func callDeck(deck, counts []int, words string, a, b int) [][]int {
	impl.IsDeck(deck)
	dealt, _ := impl.DealDeck(deck, a)
	deckFor, _ := impl.DeckFor(deck, a)
	first, _ := impl.DealFirst(deck, a)
	counted, _ := impl.DealCounts(deck, counts)
	deckForCounts, _ := impl.DeckForCounts(deck, counts)
	spelled, _ := impl.SpellDeck(deck, words)
	times, _ := impl.DealTimes(deck, a, b)
	cut, _ := impl.CutDeck(deck, a)
	back, _ := impl.BackDeck(deck)
	milked, _ := impl.MilkDeck(deck)
	shuffled, _ := impl.MongeDeck(deck)
	return [][]int{dealt, deckFor, first, counted, deckForCounts, spelled, times, cut, back, milked, shuffled}
}

func TestCardsNeverPanic(t *testing.T) {
	decks := append(goodDecks(), noDecks()...)
	for _, a := range extremes {
		for _, b := range extremes {
			impl.DealsToReturn(a, b)
			impl.LastDealt(a, b)
			impl.ShufflesToReturn(a, b)
			callDeck([]int{a, b}, []int{b, a}, "a b", a, b)
			callDeck([]int{a}, []int{b}, "a", b, a)
			callDeck([]int{1, 2, 3}, []int{a, 1, b}, "a b c", b, a)
		}
		for _, deck := range decks {
			for _, counts := range [][]int{nil, extremes, even(len(deck), a), someCounts(len(deck), 1000, 1)} {
				callDeck(deck, counts, "one two three", a, 100)
				callDeck(deck, counts, "one", 1, a)
			}
		}
	}
	for _, s := range noTexts() {
		impl.SpellCounts(s)
		callDeck(upTo(3), nil, s, 0, 0)
	}
}

// withRoom returns a list with room behind it, and the whole of it.
func withRoom(list []int) (short, whole []int) {
	whole = append(slices.Clone(list), -7, 0, 1001)
	return whole[:len(list)], whole
}

func TestDecksStayAsTheyAre(t *testing.T) {
	for _, given := range append(goodDecks(), noDecks()...) {
		if len(given) > 1000 {
			continue
		}
		deck, wholeDeck := withRoom(given)
		counts, wholeCounts := withRoom(someCounts(len(given), 1000, 9))
		deckBefore, countsBefore := slices.Clone(wholeDeck), slices.Clone(wholeCounts)
		isAsBefore := func(what string) {
			if !slices.Equal(wholeDeck, deckBefore) || !slices.Equal(wholeCounts, countsBefore) {
				t.Fatal(what, given)
			}
		}
		for _, k := range []int{-1, 0, 1, len(given), 1000} {
			lists := callDeck(deck, counts, "one two three four", k, min(k, 100))
			isAsBefore("an argument is changed:")
			for i, list := range lists {
				for _, other := range lists[i+1:] {
					kept := slices.Clone(other)
					overwrite(list)
					if !slices.Equal(other, kept) {
						t.Fatal("two results share memory:", given)
					}
				}
				overwrite(list)
				isAsBefore("a result shares memory with an argument:")
			}
		}
	}
}

func TestRoomBehindDecksIsNotRead(t *testing.T) {
	for _, room := range [][]int{{4, 0, 7, 2, 4, -1}, {4, 0, 7, 2, 5, 6}} {
		counts := []int{3, 0, 1, 2, -1, 5}
		short := callDeck([]int{4, 0, 7, 2}, []int{3, 0, 1, 2}, "a bb c dd", 2, 3)
		for i, list := range callDeck(room[:4], counts[:4], "a bb c dd", 2, 3) {
			if len(list) != 4 || !slices.Equal(list, short[i]) {
				t.Error("the room behind a deck is read:", i, list, short[i])
			}
		}
		list, ok := impl.DealCounts(room[:4], counts[:3])
		failsList(t, "DealCounts with a count behind", list, ok)
		list, ok = impl.DealCounts(room[:3], counts[:4])
		failsList(t, "DealCounts with a card behind", list, ok)
	}
}

func TestCardCallsAreAlike(t *testing.T) {
	call := func() [][]int {
		spelled, _ := impl.SpellCounts("one two three")
		return append(callDeck([]int{8, 1, 5}, []int{4, 2, 1}, "one two three", 3, 2), spelled)
	}
	firsts := call()
	for i, first := range firsts {
		kept := slices.Clone(first)
		overwrite(first)
		if second := call()[i]; len(kept) != 3 || !slices.Equal(second, kept) {
			t.Error("a second call gives something else:", i, kept, second)
		}
	}
}
