package tests

import (
	"math"
	"runtime"
	"slices"
	"strings"
	"testing"

	"loop.example/g01295/impl"
)

// callSongs calls all functions of the chapter that take songs, but LastBySongs, and returns all lists of their results.
func callSongs(a, b impl.Song, people, k int) [][]int {
	impl.IsSong(a)
	impl.SongLast(a, people)
	impl.SongTurn(a, people, k)
	impl.SongPeriod(a)
	impl.BestTurn(a, people, k)
	impl.SameOrder(a, b, people)
	impl.SongText(a)
	order, _ := impl.SongOrder(a, people)
	left, _ := impl.SongLeft(a, people, k)
	least, _ := impl.LeastSong(a)
	turned, _ := impl.TurnSong(a, k)
	joined, _ := impl.JoinSongs(a, b)
	safe, _ := impl.SafePlaces(a, people, k)
	return [][]int{order, left, least.Counts, turned.Counts, joined.Counts, safe}
}

// songsAndOthers are songs and others that are none.
func songsAndOthers() []impl.Song { return append(fewSongs(), noSongs()...) }

func TestSongsNeverPanic(t *testing.T) {
	for _, s := range songsAndOthers() {
		impl.SongForOrder(s.Counts)
		for _, people := range extremes {
			impl.LastBySongs(s, people)
			for _, k := range extremes {
				callSongs(s, s, people, k)
			}
		}
		for _, other := range songsAndOthers() {
			callSongs(s, other, 3, 1)
		}
	}
	for _, a := range extremes {
		for _, b := range extremes {
			callSongs(songOf(a, b), songOf(b, a), 5, 1)
			impl.SongForOrder([]int{a, b})
			impl.SongForOrder([]int{0, a, b, 3})
		}
	}
}

func TestTextsOfSongsNeverPanic(t *testing.T) {
	texts := append(noSongTexts(), noLines()...)
	texts = append(texts, "3-1", "one two/three", "\xf0\x9f-\x98", "a/\xf0\x9f", strings.Repeat("3-1", 7), strings.Repeat("/\x00", 150))
	for _, text := range texts {
		impl.ParseSong(text)
		impl.SongOfWords(text)
	}
}

func TestSongsStayAsTheyAre(t *testing.T) {
	for _, given := range songsAndOthers() {
		a, wholeA := withRoom(given.Counts)
		b, wholeB := withRoom(given.Counts)
		beforeA, beforeB := slices.Clone(wholeA), slices.Clone(wholeB)
		for _, k := range []int{-1, 0, 1, len(a) - 1, len(a), math.MaxInt} {
			lists := append(callSongs(impl.Song{Counts: a}, impl.Song{Counts: b}, 7, k), callSongs(impl.Song{Counts: a}, impl.Song{Counts: a}, 30, k)...)
			lasts, _ := impl.LastBySongs(impl.Song{Counts: a}, 9)
			for _, list := range append(lists, lasts) {
				overwrite(list)
				_ = append(list, -77)
			}
		}
		if !slices.Equal(wholeA, beforeA) || !slices.Equal(wholeB, beforeB) {
			t.Fatal("an argument is changed:", beforeA[:min(len(beforeA), 30)])
		}
	}
}

// TestJoinedSongsHaveTheirOwnRoom: a song that is joined is not written behind the counts of the first one.
func TestJoinedSongsHaveTheirOwnRoom(t *testing.T) {
	room := []int{3, 1, 7, 8, 9, 10}
	a := impl.Song{Counts: room[:2]}
	joined, ok := impl.JoinSongs(a, songOf(5, 6))
	wantSong(t, "JoinSongs", joined, ok, 3, 1, 5, 6)
	wantList(t, "what is behind the first song", room, true, []int{3, 1, 7, 8, 9, 10})
	b, ok := impl.JoinSongs(a, a)
	wantSong(t, "JoinSongs with itself", b, ok, 3, 1, 3, 1)
	overwrite(b.Counts)
	wantList(t, "a song that is joined with itself", room, true, []int{3, 1, 7, 8, 9, 10})
}

func TestOrdersForSongsStayAsTheyAre(t *testing.T) {
	for _, order := range append(ordersForSongs(), noOrders()...) {
		list, whole := withRoom(order)
		before := slices.Clone(whole)
		s, _ := impl.SongForOrder(list)
		overwrite(s.Counts)
		if !slices.Equal(whole, before) {
			t.Fatal("an argument is changed:", before[:min(len(before), 30)])
		}
	}
}

func TestRoomBehindSongsIsNotRead(t *testing.T) {
	room := []int{3, 1, 2, 3, 1, 2, 0, -1}
	for size := 1; size <= 6; size++ {
		short, long := songOf(slices.Clone(room[:size])...), songOf(room[:size]...)
		lists, others := callSongs(short, short, 5, 0), callSongs(long, long, 5, 0)
		if !slices.EqualFunc(lists, others, slices.Equal[[]int]) || !impl.IsSong(long) {
			t.Error("the room behind counts is read:", size, lists, others)
		}
	}
	order := []int{1, 0, 2, 2, -1}
	s, ok := impl.SongForOrder(order[:2])
	wantSong(t, "SongForOrder with room behind the order", s, ok, 2, 1)
}

func TestSongCallsAreAlike(t *testing.T) {
	a, b := songOf(3, 1, 3, 1), songOf(2)
	calls := []func() []int{
		func() []int { s, _ := impl.ParseSong("4-1-3"); return s.Counts },
		func() []int { s, _ := impl.SongOfWords("a b/c"); return s.Counts },
		func() []int { s, _ := impl.SongForOrder([]int{2, 0, 1}); return s.Counts },
		func() []int { l, _ := impl.LastBySongs(a, 9); return l },
	}
	for i := range callSongs(a, b, 7, 2) {
		calls = append(calls, func() []int { return callSongs(a, b, 7, 2)[i] })
	}
	wantAlike(t, calls)
}

// TestNobodyGoesOnSinging looks for goroutines that calls leave behind, of which some may be about to end.
func TestNobodyGoesOnSinging(t *testing.T) {
	before := runtime.NumGoroutine()
	for k := range 1000 {
		callSongs(songOf(3, 1, 2), songOf(2), 40, k%45)
	}
	if after := runtime.NumGoroutine(); after > before+100 {
		t.Errorf("%d goroutines have become %d", before, after)
	}
}
