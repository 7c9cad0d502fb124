package tests

import (
	"fmt"
	"math"
	"regexp"
	"slices"
	"strconv"
	"strings"
	"testing"

	"loop.example/g01295/impl"
)

func songOf(counts ...int) impl.Song { return impl.Song{Counts: counts} }

// walkSong counts one person after the other, each turn by its own count, as the document says it.
func walkSong(counts []int, people, begin int) []int {
	gone := make(walkers, people)
	order := []int{}
	for at := begin; len(order) < people; {
		out := gone.choose(at, counts[len(order)%len(counts)], 1)
		gone[out] = true
		order = append(order, out)
		at = (out + 1) % people
	}
	return order
}

// fewSongs are songs of all kinds, not too many for calls with many arguments: those at the limits are among them.
func fewSongs() []impl.Song {
	return []impl.Song{
		songOf(1), songOf(2), songOf(impl.MaxStep), songOf(3, 1), songOf(1, impl.MaxStep), songOf(2, 1, 2), songOf(4, 4, 4, 4), songOf(5, 3, 5, 3, 5, 3),
		{Counts: even(impl.MaxCounts, 1)}, {Counts: even(impl.MaxCounts, impl.MaxStep)},
		{Counts: append(even(impl.MaxCounts-1, 1), impl.MaxStep)},
		{Counts: counted(impl.MaxCounts, 9999, 3)}, {Counts: counted(impl.MaxCounts-1, 30, 4)},
	}
}

// counted returns counts of 1..most+1 that follow a rule without much order.
func counted(counts, most, seed int) []int {
	list := someCounts(counts, most, seed)
	for i := range list {
		list[i]++
	}
	return list
}

// manySongs are all songs of up to 3 counts of up to 4, and some of each length.
func manySongs() []impl.Song {
	songs := fewSongs()
	for size := 1; size <= 3; size++ {
		for _, counts := range listsOfLives(size, 4) {
			songs = append(songs, impl.Song{Counts: counts})
		}
	}
	for size := 1; size <= impl.MaxCounts; size++ {
		for seed, most := range []int{2, 7, 40, 9999} {
			songs = append(songs, impl.Song{Counts: counted(size, most, 17*size+seed)})
		}
	}
	return songs
}

// noSongs are no songs.
func noSongs() []impl.Song {
	songs := []impl.Song{
		{}, {Counts: []int{}}, {Counts: even(impl.MaxCounts+1, 1)}, {Counts: even(1000000, 1)}, {Counts: extremes}, {Counts: even(impl.MaxCounts, 0)}, songOf(0, 0),
	}
	for _, bad := range []int{math.MinInt, math.MinInt + 1, -impl.MaxStep, -1, 0, impl.MaxStep + 1, math.MaxInt - 1, math.MaxInt} {
		last := append(even(impl.MaxCounts-1, 1), bad)
		songs = append(songs, songOf(bad), songOf(bad, 3), songOf(3, bad), songOf(1, bad, 2), impl.Song{Counts: last})
	}
	return songs
}

// noPeople are numbers of people that there are not.
var noPeople = []int{math.MinInt, math.MinInt + 1, -200, -1, 0, impl.MaxPeople + 1, impl.MaxPeople + 2, 1000000, math.MaxInt - 1, math.MaxInt}

// eachSung calls f for many songs and small circles.
func eachSung(f func(name string, s impl.Song, people int, order []int)) {
	for _, s := range manySongs() {
		for people := 1; people <= 9; people++ {
			f(fmt.Sprintf(" by %v of %d", s.Counts, people), s, people, walkSong(s.Counts, people, 0))
		}
	}
}

func TestSongExample(t *testing.T) {
	s, ok := impl.ParseSong("3-1")
	wantSong(t, "ParseSong", s, ok, 3, 1)
	list, ok := impl.SongOrder(s, 4)
	wantList(t, "SongOrder", list, ok, []int{2, 3, 0, 1})
	s, ok = impl.SongOfWords("one two/three")
	wantSong(t, "SongOfWords", s, ok, 2, 1)
	text, ok := impl.SongText(s)
	wantText(t, "SongText of words", text, ok, "2-1")
	s, ok = impl.SongForOrder([]int{2, 3, 0, 1})
	wantSong(t, "SongForOrder", s, ok, 3, 1, 1, 1)
	text, ok = impl.SongText(s)
	wantText(t, "SongText for an order", text, ok, "3-1-1-1")
	s, _ = impl.ParseSong("2-1-2-1")
	s, ok = impl.LeastSong(s)
	wantSong(t, "LeastSong", s, ok, 2, 1)
}

func wantText(t *testing.T, name, got string, ok bool, want string) {
	t.Helper()
	if !ok || got != want {
		t.Errorf("%s: got %q, %v, want %q, true", name, got, ok, want)
	}
}

func TestSongLimits(t *testing.T) {
	if impl.MaxCounts != 20 || impl.MaxSongText != 300 {
		t.Error("limits:", impl.MaxCounts, impl.MaxSongText)
	}
}

// TestSongsByHand has what was counted on paper.
func TestSongsByHand(t *testing.T) {
	s := songOf(3, 1)
	for turns, want := range [][]int{{0, 1, 2, 3}, {3, 0, 1}, {0, 1}, {1}} {
		list, ok := impl.SongLeft(s, 4, turns)
		wantList(t, fmt.Sprint("SongLeft ", turns), list, ok, want)
	}
	n, ok := impl.SongTurn(s, 4, 3)
	wantNumber(t, "SongTurn", n, ok, 1)
	list, ok := impl.SongOrder(songOf(1, 3), 4)
	wantList(t, "SongOrder of the turned song", list, ok, []int{0, 3, 1, 2})
	n, ok = impl.BestTurn(s, 4, 1)
	wantNumber(t, "BestTurn of 1", n, ok, 0)
	n, ok = impl.BestTurn(s, 4, 2)
	wantNumber(t, "BestTurn of 2", n, ok, 1)
	n, ok = impl.BestTurn(s, 4, 0)
	failsNumber(t, "BestTurn of 0", n, ok)
	list, ok = impl.SafePlaces(s, 4, 3)
	wantList(t, "SafePlaces of 3 songs", list, ok, []int{1, 2, 3})
	list, ok = impl.SafePlaces(songOf(2, 1), 3, 2)
	wantList(t, "SafePlaces around", list, ok, []int{0, 1})
	list, ok = impl.LastBySongs(s, 4)
	wantList(t, "LastBySongs", list, ok, []int{0, 1, 1, 1})
	list, ok = impl.SongOrder(s, 5)
	wantList(t, "SongOrder of 5", list, ok, []int{2, 3, 1, 4, 0})
	same, ok := impl.SameOrder(s, songOf(3, 1, 1, 1), 4)
	wantBool(t, "SameOrder of 4", same, ok, true)
	same, ok = impl.SameOrder(s, songOf(3, 1, 1, 1), 5)
	wantBool(t, "SameOrder of 5", same, ok, false)
	song, ok := impl.SongForOrder([]int{1, 0, 2})
	wantSong(t, "SongForOrder", song, ok, 2, 2, 1)
	song, ok = impl.SongOfWords("a b c/d/e f")
	wantSong(t, "SongOfWords", song, ok, 3, 1, 2)
	song, ok = impl.LeastSong(songOf(2, 1, 2))
	wantSong(t, "LeastSong of what is cut off", song, ok, 2, 1, 2)
	song, ok = impl.JoinSongs(s, songOf(2))
	wantSong(t, "JoinSongs", song, ok, 3, 1, 2)
	song, ok = impl.TurnSong(songOf(3, 1, 2), 2)
	wantSong(t, "TurnSong", song, ok, 2, 3, 1)
}

func TestOrdersBySongs(t *testing.T) {
	eachSung(func(name string, s impl.Song, people int, order []int) {
		list, ok := impl.SongOrder(s, people)
		wantList(t, "SongOrder"+name, list, ok, order)
		wantAll(t, "SongOrder"+name, list, people)
		n, ok := impl.SongLast(s, people)
		wantNumber(t, "SongLast"+name, n, ok, order[people-1])
		for turn, person := range order {
			n, ok = impl.SongTurn(s, people, person)
			wantNumber(t, fmt.Sprintf("SongTurn of %d%s", person, name), n, ok, turn)
		}
		for turns := range people {
			list, ok = impl.SongLeft(s, people, turns)
			wantList(t, fmt.Sprintf("SongLeft behind %d%s", turns, name), list, ok, leftFrom(order, turns))
			behind := slices.Sorted(slices.Values(order[turns:]))
			wantList(t, fmt.Sprintf("SongLeft and SongOrder behind %d%s", turns, name), slices.Sorted(slices.Values(list)), ok, behind)
		}
	})
}

func TestGreatCirclesBySongs(t *testing.T) {
	for _, s := range manySongs() {
		for _, people := range []int{1, 19, 20, 21, 100, impl.MaxPeople - 1, impl.MaxPeople} {
			name := fmt.Sprintf(" by %v of %d", s.Counts, people)
			order := cutOut(upTo(people), s.Counts...)
			list, ok := impl.SongOrder(s, people)
			wantList(t, "SongOrder"+name, list, ok, order)
			n, ok := impl.SongLast(s, people)
			wantNumber(t, "SongLast"+name, n, ok, order[people-1])
			for _, turns := range []int{0, people / 3, people - 1} {
				n, ok = impl.SongTurn(s, people, order[turns])
				wantNumber(t, "SongTurn"+name, n, ok, turns)
				list, ok = impl.SongLeft(s, people, turns)
				wantList(t, "SongLeft"+name, list, ok, leftFrom(order, turns))
			}
		}
	}
}

// TestSongsOfOneCount: they go as steps.
func TestSongsOfOneCount(t *testing.T) {
	for _, people := range []int{1, 2, 3, 7, 10, 41, impl.MaxPeople} {
		for _, step := range []int{1, 2, 3, 7, people, people + 1, 1000, impl.MaxStep - 1, impl.MaxStep} {
			s := songOf(step)
			name := fmt.Sprintf(" of %d by %d", people, step)
			list, ok := impl.SongOrder(s, people)
			order, _ := impl.OrderOut(people, step)
			wantList(t, "SongOrder and OrderOut"+name, list, ok, order)
			n, ok := impl.SongLast(s, people)
			last, _ := impl.LastLeft(people, step)
			wantNumber(t, "SongLast and LastLeft"+name, n, ok, last)
			for i := range people {
				n, ok = impl.SongTurn(s, people, i)
				turn, _ := impl.TurnOut(people, step, i)
				wantNumber(t, "SongTurn and TurnOut"+name, n, ok, turn)
				list, ok = impl.SongLeft(s, people, i)
				left, _ := impl.LeftAfter(people, step, i)
				wantList(t, "SongLeft and LeftAfter"+name, list, ok, left)
			}
		}
	}
}

// ordersForSongs are those of chapter 7, and some of more people, up to MaxCounts.
func ordersForSongs() [][]int {
	orders := manyOrders()
	for people := impl.MaxOrdered + 1; people <= impl.MaxCounts; people++ {
		orders = append(orders, upTo(people), reversed(upTo(people)))
		for seed := range 10 {
			orders = append(orders, someOrder(people, seed), cutOut(upTo(people), seed*seed+1))
		}
	}
	return orders
}

func TestSongsForOrders(t *testing.T) {
	for _, order := range ordersForSongs() {
		people := len(order)
		name := fmt.Sprint(" for ", order)
		s, ok := impl.SongForOrder(order)
		wantNumber(t, "counts"+name, len(s.Counts), ok, people)
		wantBool(t, "a song"+name, impl.IsSong(s), ok, true)
		list, ok := impl.SongOrder(s, people)
		wantList(t, "SongOrder"+name, list, ok, order)
	}
}

// TestNoCountIsLess tries all counts that are less, one at a time, and all songs with lesser counts for few people.
func TestNoCountIsLess(t *testing.T) {
	for _, order := range ordersForSongs() {
		s, _ := impl.SongForOrder(order)
		for turn, count := range s.Counts {
			for less := 1; less < count; less++ {
				other := slices.Clone(s.Counts)
				other[turn] = less
				if slices.Equal(cutOut(upTo(len(order)), other...), order) {
					t.Fatal("the count could be less:", order, s, turn, less)
				}
			}
		}
	}
	for people := 1; people <= 5; people++ {
		songs := map[string][]int{}
		for _, counts := range listsOfLives(people, people) {
			name := fmt.Sprint(walkSong(counts, people, 0))
			if songs[name] == nil || slices.Compare(counts, songs[name]) < 0 {
				songs[name] = counts
			}
		}
		for _, order := range permutations(upTo(people)) {
			s, ok := impl.SongForOrder(order)
			wantSong(t, fmt.Sprint("SongForOrder of ", order), s, ok, songs[fmt.Sprint(order)]...)
		}
	}
}

// countsAlike reports whether the first counts of a song tell the count at each turn, for so many turns that both songs have ended together.
func countsAlike(counts []int, first int) bool {
	for turn := range len(counts) * first {
		if counts[turn%len(counts)] != counts[turn%first] {
			return false
		}
	}
	return true
}

// songsThatComeAgain are songs of two different counts in all ways, and songs that are sung again and again, whole or not.
func songsThatComeAgain() []impl.Song {
	songs := manySongs()
	for size := 1; size <= 10; size++ {
		for _, counts := range listsOfLives(size, 2) {
			songs = append(songs, impl.Song{Counts: counts})
		}
	}
	for size := 1; size <= 10; size++ {
		again := slices.Repeat(counted(size, 5, size), impl.MaxCounts)
		for whole := size; whole <= impl.MaxCounts; whole++ {
			songs = append(songs, impl.Song{Counts: again[:whole:whole]})
		}
	}
	return songs
}

func TestLeastSongs(t *testing.T) {
	shorter := 0
	for _, s := range songsThatComeAgain() {
		want := 1
		for !countsAlike(s.Counts, want) {
			want++
		}
		if want < len(s.Counts) {
			shorter++
		}
		name := fmt.Sprint(" of ", s.Counts)
		least, ok := impl.LeastSong(s)
		wantSong(t, "LeastSong"+name, least, ok, s.Counts[:want]...)
		n, ok := impl.SongPeriod(s)
		wantNumber(t, "SongPeriod"+name, n, ok, want)
		again, ok := impl.LeastSong(least)
		wantSong(t, "LeastSong of LeastSong"+name, again, ok, least.Counts...)
		for _, people := range []int{5, 33} {
			same, ok := impl.SameOrder(s, least, people)
			wantBool(t, "SameOrder of it and LeastSong"+name, same, ok, true)
		}
	}
	if shorter < 50 {
		t.Error("few songs have a shorter one:", shorter)
	}
}

func TestTurnedSongs(t *testing.T) {
	for _, s := range manySongs() {
		name := fmt.Sprint("TurnSong of ", s.Counts)
		size := len(s.Counts)
		turned := s
		for k := range size {
			want := []int{}
			for turn := range size {
				want = append(want, s.Counts[(turn+k)%size])
			}
			got, ok := impl.TurnSong(s, k)
			wantSong(t, fmt.Sprint(name, " and ", k), got, ok, want...)
			back, ok := impl.TurnSong(got, (size-k)%size)
			wantSong(t, fmt.Sprint(name, " and back ", k), back, ok, s.Counts...)
			turned, _ = impl.TurnSong(turned, 1%size)
		}
		wantSong(t, name+" around", turned, true, s.Counts...)
		for _, k := range []int{math.MinInt, -size, -1, size, size + 1, 2 * size, math.MaxInt} {
			got, ok := impl.TurnSong(s, k)
			failsSong(t, fmt.Sprint(name, " and ", k), got, ok)
		}
	}
}

func TestJoinedSongs(t *testing.T) {
	songs := manySongs()
	tooMany := 0
	for i, a := range songs {
		for _, b := range slices.Concat(songs[i:min(i+30, len(songs))], songs[len(songs)-12:]) {
			name := fmt.Sprintf("JoinSongs of %v and %v", a.Counts, b.Counts)
			got, ok := impl.JoinSongs(a, b)
			if len(a.Counts)+len(b.Counts) > impl.MaxCounts {
				tooMany++
				failsSong(t, name, got, ok)
				continue
			}
			wantSong(t, name, got, ok, slices.Concat(a.Counts, b.Counts)...)
		}
	}
	if tooMany == 0 {
		t.Error("no songs were too long together")
	}
	for size := 1; size < impl.MaxCounts; size++ {
		a := impl.Song{Counts: counted(size, 9, 1)}
		b := impl.Song{Counts: counted(impl.MaxCounts-size, 9, 2)}
		got, ok := impl.JoinSongs(a, b)
		wantSong(t, "as many counts as may be", got, ok, slices.Concat(a.Counts, b.Counts)...)
		b.Counts = append(b.Counts, 1)
		got, ok = impl.JoinSongs(a, b)
		failsSong(t, "one count more", got, ok)
	}
}

// TestTurnedSongsAreJoined: what TurnSong puts behind is what JoinSongs puts there.
func TestTurnedSongsAreJoined(t *testing.T) {
	for _, s := range manySongs() {
		for k := 1; k < len(s.Counts); k++ {
			turned, _ := impl.TurnSong(s, k)
			joined, ok := impl.JoinSongs(songOf(s.Counts[k:]...), songOf(s.Counts[:k]...))
			wantSong(t, fmt.Sprintf("JoinSongs and TurnSong of %v and %d", s.Counts, k), joined, ok, turned.Counts...)
		}
	}
}

func TestSafePlaces(t *testing.T) {
	eachSung(func(name string, s impl.Song, people int, order []int) {
		safe := []int{}
		for begin := range people {
			safe = append(safe, walkSong(s.Counts, people, begin)[people-1])
			slices.Sort(safe)
			list, ok := impl.SafePlaces(s, people, begin+1)
			wantList(t, fmt.Sprintf("SafePlaces of %d songs%s", begin+1, name), list, ok, slices.Compact(slices.Clone(safe)))
		}
		wantList(t, "SafePlaces of all songs"+name, safe, true, upTo(people))
		for _, songs := range []int{math.MinInt, -1, 0, people + 1, people + 2, impl.MaxPeople + 1, math.MaxInt} {
			list, ok := impl.SafePlaces(s, people, songs)
			failsList(t, fmt.Sprintf("SafePlaces of %d songs%s", songs, name), list, ok)
		}
	})
	for _, s := range fewSongs() {
		last, _ := impl.SongLast(s, impl.MaxPeople)
		list, ok := impl.SafePlaces(s, impl.MaxPeople, 1)
		wantList(t, "SafePlaces of one song", list, ok, []int{last})
		list, ok = impl.SafePlaces(s, impl.MaxPeople, impl.MaxPeople)
		wantList(t, "SafePlaces of all songs", list, ok, upTo(impl.MaxPeople))
	}
}

func TestBestTurns(t *testing.T) {
	found, notFound, late := 0, 0, 0
	eachSung(func(name string, s impl.Song, people int, order []int) {
		best := even(people, -1)
		for k := len(s.Counts) - 1; k >= 0; k-- {
			turned := slices.Concat(s.Counts[k:], s.Counts[:k])
			best[walkSong(turned, people, 0)[people-1]] = k
		}
		for person, want := range best {
			n, ok := impl.BestTurn(s, people, person)
			if want < 0 {
				notFound++
				failsNumber(t, fmt.Sprintf("BestTurn of %d%s", person, name), n, ok)
				continue
			}
			found++
			late = max(late, n)
			wantNumber(t, fmt.Sprintf("BestTurn of %d%s", person, name), n, ok, want)
			turned, _ := impl.TurnSong(s, n)
			last, ok := impl.SongLast(turned, people)
			wantNumber(t, fmt.Sprintf("SongLast by BestTurn of %d%s", person, name), last, ok, person)
		}
	})
	if found == 0 || notFound == 0 || late < 5 {
		t.Error("turns of all kinds:", found, notFound, late)
	}
}

func TestLastBySongs(t *testing.T) {
	for _, s := range manySongs() {
		lasts := []int{}
		for people := 1; people <= 30; people++ {
			last, _ := impl.SongLast(s, people)
			lasts = append(lasts, last)
			list, ok := impl.LastBySongs(s, people)
			wantList(t, fmt.Sprintf("LastBySongs by %v up to %d", s.Counts, people), list, ok, lasts)
		}
	}
	for _, s := range fewSongs() {
		list, ok := impl.LastBySongs(s, impl.MaxPeople)
		wantNumber(t, "all people", len(list), ok, impl.MaxPeople)
		for i, last := range list {
			wantNumber(t, "LastBySongs up to all people", last, ok, cutOut(upTo(i+1), s.Counts...)[i])
		}
	}
}

func TestSameOrders(t *testing.T) {
	songs := manySongs()
	often := map[bool]int{}
	for i, a := range songs {
		for _, b := range songs[i:min(i+25, len(songs))] {
			for _, people := range []int{1, 2, 3, 4, 6, 25} {
				one, _ := impl.SongOrder(a, people)
				other, _ := impl.SongOrder(b, people)
				want := fmt.Sprint(one) == fmt.Sprint(other)
				name := fmt.Sprintf("SameOrder by %v and %v of %d", a.Counts, b.Counts, people)
				same, ok := impl.SameOrder(a, b, people)
				wantBool(t, name, same, ok, want)
				same, ok = impl.SameOrder(b, a, people)
				wantBool(t, name+" the other way", same, ok, want)
				often[want]++
			}
		}
	}
	if often[true] < 100 || often[false] < 100 {
		t.Error("orders of both kinds:", often)
	}
}

// TestOrdersThatDifferLate: two songs may part only at the last turns.
func TestOrdersThatDifferLate(t *testing.T) {
	a := impl.Song{Counts: even(impl.MaxCounts, 1)}
	b := impl.Song{Counts: append(even(impl.MaxCounts-1, 1), 2)}
	for _, people := range []int{impl.MaxCounts - 1, impl.MaxCounts, impl.MaxCounts + 1} {
		same, ok := impl.SameOrder(a, b, people)
		wantBool(t, fmt.Sprint("SameOrder of ", people), same, ok, people <= impl.MaxCounts)
	}
}

func TestSongsOfOneAlone(t *testing.T) {
	for _, s := range manySongs() {
		name := fmt.Sprint(" of one by ", s.Counts)
		list, ok := impl.SongOrder(s, 1)
		wantList(t, "SongOrder"+name, list, ok, []int{0})
		n, ok := impl.SongTurn(s, 1, 0)
		wantNumber(t, "SongTurn"+name, n, ok, 0)
		list, ok = impl.SongLeft(s, 1, 0)
		wantList(t, "SongLeft"+name, list, ok, []int{0})
		list, ok = impl.SongLeft(s, 1, 1)
		failsList(t, "SongLeft behind a turn"+name, list, ok)
		list, ok = impl.SafePlaces(s, 1, 1)
		wantList(t, "SafePlaces"+name, list, ok, []int{0})
		n, ok = impl.BestTurn(s, 1, 0)
		wantNumber(t, "BestTurn"+name, n, ok, 0)
		list, ok = impl.LastBySongs(s, 1)
		wantList(t, "LastBySongs"+name, list, ok, []int{0})
	}
	s, ok := impl.SongForOrder([]int{0})
	wantSong(t, "SongForOrder of one", s, ok, 1)
}

func TestSongTexts(t *testing.T) {
	for _, s := range songsThatComeAgain() {
		want := strings.Trim(strings.ReplaceAll(fmt.Sprint(s.Counts), " ", "-"), "[]")
		text, ok := impl.SongText(s)
		wantText(t, "SongText of "+want, text, ok, want)
		back, ok := impl.ParseSong(text)
		wantSong(t, "ParseSong of "+want, back, ok, s.Counts...)
	}
	most := strings.TrimSuffix(strings.Repeat("1000000-", impl.MaxCounts), "-")
	s, ok := impl.ParseSong(most)
	wantSong(t, "the limits", s, ok, even(impl.MaxCounts, impl.MaxStep)...)
}

// noSongTexts are texts that are no SongTexts.
func noSongTexts() []string {
	texts := []string{
		"", "-", "--", "3-", "-3", "3--1", "-3-1", "3-1-", "3-1--2", "0", "00", "0-1", "1-0", "3-0-1", "03", "3-01", "003-1", "+3", "+3-1", "3-+1", "3--0", "-0",
		" 3-1", "3 -1", "3- 1", "3-1 ", "3-1\n", "\n", "\t3", "3\x00", "\x00", "3,1", "3.1", "3/1", "3 1", "3_1", "1_0", "0x3", "3e1", "1.5", "a", "3-a", "a-3", "A", "3-1a",
		"\xff", "3-\xff", "٣", "3-١", "３", "3\u22121", "3\u20131", "3\u00ad1", "1000001", "3-1000001", "1000001-3", "10000000", "9999999-1",
		"9223372036854775807", "9223372036854775808", "-9223372036854775808", "18446744073709551619", "3-18446744073709551617", strings.Repeat("9", 1000),
		strings.Repeat("1-", impl.MaxCounts) + "1", strings.Repeat("1-", impl.MaxCounts), strings.Repeat("1-", impl.MaxCounts-1) + "0",
		strings.Repeat("1", 1000000), strings.Repeat("-", 1000000), strings.Repeat("1-", 1000000) + "1",
	}
	return texts
}

func TestTextsOfNoSong(t *testing.T) {
	for _, text := range noSongTexts() {
		s, ok := impl.ParseSong(text)
		failsSong(t, fmt.Sprintf("ParseSong of %.60q", text), s, ok)
	}
	s, ok := impl.ParseSong(strings.Repeat("1-", impl.MaxCounts-1) + "1")
	wantSong(t, "as many as may be", s, ok, even(impl.MaxCounts, 1)...)
}

// changedTexts are a text with single bytes put in, changed or taken out.
func changedTexts(base string) []string {
	texts := []string{}
	for at := 0; at <= len(base); at++ {
		for b := range 256 {
			texts = append(texts, base[:at]+string([]byte{byte(b)})+base[at:])
			if at < len(base) {
				texts = append(texts, base[:at]+string([]byte{byte(b)})+base[at+1:])
			}
		}
		if at < len(base) {
			texts = append(texts, base[:at]+base[at+1:])
		}
	}
	return texts
}

func TestChangedSongTexts(t *testing.T) {
	songs := regexp.MustCompile(`\A[1-9][0-9]*(-[1-9][0-9]*)*\z`)
	taken := 0
	for _, text := range changedTexts("30-1-999999-20") {
		s, ok := impl.ParseSong(text)
		counts := []int{}
		for part := range strings.SplitSeq(text, "-") {
			n, _ := strconv.Atoi(part)
			counts = append(counts, n)
		}
		if !songs.MatchString(text) || slices.Max(counts) > impl.MaxStep {
			failsSong(t, "ParseSong of "+text, s, ok)
			continue
		}
		taken++
		wantSong(t, "ParseSong of "+text, s, ok, counts...)
		back, ok := impl.SongText(s)
		wantText(t, "SongText of "+text, back, ok, text)
	}
	if taken < 50 {
		t.Error("few texts are taken:", taken)
	}
}

func TestSongsOfWords(t *testing.T) {
	for _, s := range manySongs() {
		lines := []string{}
		for i, count := range s.Counts {
			lines = append(lines, strings.TrimSuffix(strings.Repeat(strings.Repeat("xyz", i%2)+"a ", min(count, 400)), " "))
		}
		text := strings.Join(lines, "/")
		got, ok := impl.SongOfWords(text)
		if len(text) > impl.MaxSongText {
			failsSong(t, "SongOfWords of "+text, got, ok)
			continue
		}
		wantSong(t, "SongOfWords of "+text, got, ok, s.Counts...)
	}
	s, ok := impl.SongOfWords("eeny meeny miny moe/catch a tiger by the toe/if he hollers let him go")
	wantSong(t, "SongOfWords", s, ok, 4, 6, 6)
}

func TestSongsOfWordsAtTheLimits(t *testing.T) {
	for _, length := range []int{1, 20, 21, impl.MaxSongText - 1, impl.MaxSongText} {
		s, ok := impl.SongOfWords(strings.Repeat("z", length))
		wantSong(t, fmt.Sprint("a word of letters: ", length), s, ok, 1)
	}
	words := strings.Repeat("a ", 149)
	s, ok := impl.SongOfWords(words + "ab")
	wantSong(t, "a line as long as may be", s, ok, 150)
	s, ok = impl.SongOfWords(words + "abc")
	failsSong(t, "a line that is too long", s, ok)
	lines := strings.Repeat("az/", impl.MaxCounts-1)
	s, ok = impl.SongOfWords(lines + "m")
	wantSong(t, "as many lines as may be", s, ok, even(impl.MaxCounts, 1)...)
	s, ok = impl.SongOfWords(lines + "m/m")
	failsSong(t, "one line more", s, ok)
	rest := strings.Repeat("b", impl.MaxSongText-len(lines)-4)
	s, ok = impl.SongOfWords(lines + "c d " + rest)
	wantSong(t, "as much of all as may be", s, ok, append(even(impl.MaxCounts-1, 1), 3)...)
	s, ok = impl.SongOfWords(lines + "c d " + rest + "b")
	failsSong(t, "one byte more", s, ok)
}

// noLines are texts of no lines of words.
func noLines() []string {
	return []string{
		"", " ", "  ", "/", "//", " /", "/ ", " / ", "one/", "/one", "one//two", "one/ /two", "one/two/", "/one/two", "one two/", "one / two", "one/ two", "one /two",
		" one", "one ", "one  two", "one   two", "one two ", " one two", "one two  three/four", "one/two  three", "one/two ", "one/ two",
		"One", "oNe", "onE", "one Two", "one/tWo", "ONE", "1", "on3", "one 2", "one-two", "one,two", "one.", "one!", "don't", "one_two", "one\\two", "one|two",
		"`", "{", "a`", "{a", "@", "[", "one\ttwo", "one\ntwo", "one\n", "one\r", "one\x00", "\x00", "é", "one ünf", "ａ", "one\xff", "\xff/one", "one\u00a0two", "one\u2003two", "one\u2044two", "one\u2215two",
		strings.Repeat("a", impl.MaxSongText+1), strings.Repeat("a ", 150) + "a", strings.Repeat("a", 1000000), strings.Repeat("/", 1000000), strings.Repeat("a/", 1000000) + "a",
		strings.Repeat("a/", impl.MaxCounts) + "a", strings.Repeat("a/", impl.MaxCounts), strings.Repeat("a/", 149) + "a",
	}
}

func TestTextsOfNoLines(t *testing.T) {
	for _, text := range noLines() {
		s, ok := impl.SongOfWords(text)
		failsSong(t, fmt.Sprintf("SongOfWords of %.60q", text), s, ok)
	}
}

func TestChangedLinesOfWords(t *testing.T) {
	lines := regexp.MustCompile(`\A[a-z]+( [a-z]+)*(/[a-z]+( [a-z]+)*)*\z`)
	taken := 0
	for _, text := range changedTexts("az b/c/do zy xwv/a") {
		s, ok := impl.SongOfWords(text)
		if !lines.MatchString(text) {
			failsSong(t, "SongOfWords of "+text, s, ok)
			continue
		}
		taken++
		counts := []int{}
		for line := range strings.SplitSeq(text, "/") {
			counts = append(counts, len(strings.Fields(line)))
		}
		wantSong(t, "SongOfWords of "+text, s, ok, counts...)
	}
	if taken < 50 {
		t.Error("few texts are taken:", taken)
	}
}

// failsOfSong wants all functions of one song to fail.
func failsOfSong(t *testing.T, s impl.Song) {
	t.Helper()
	name := fmt.Sprint(" by ", s.Counts[:min(len(s.Counts), 30)])
	if impl.IsSong(s) {
		t.Error("IsSong", name)
	}
	for _, people := range []int{1, 4, impl.MaxPeople} {
		failsToSing(t, s, people, 0)
		for _, pair := range [][2]impl.Song{{s, songOf(3, 1)}, {songOf(3, 1), s}} {
			if same, ok := impl.SameOrder(pair[0], pair[1], people); same || ok {
				t.Error("SameOrder", name, same, ok)
			}
		}
	}
	got, ok := impl.LeastSong(s)
	failsSong(t, "LeastSong"+name, got, ok)
	n, ok := impl.SongPeriod(s)
	failsNumber(t, "SongPeriod"+name, n, ok)
	for _, k := range []int{-1, 0, 1, len(s.Counts) - 1} {
		got, ok = impl.TurnSong(s, k)
		failsSong(t, "TurnSong"+name, got, ok)
	}
	for _, other := range []impl.Song{s, songOf(3), songOf(2, 1)} {
		got, ok = impl.JoinSongs(s, other)
		failsSong(t, "JoinSongs"+name, got, ok)
		got, ok = impl.JoinSongs(other, s)
		failsSong(t, "JoinSongs behind one"+name, got, ok)
	}
	if text, ok := impl.SongText(s); ok || text != "" {
		t.Error("SongText", name, text, ok)
	}
}

// failsToSing wants all functions of a song, people and a person or turns to fail.
func failsToSing(t *testing.T, s impl.Song, people, person int) {
	t.Helper()
	name := fmt.Sprintf(" by %v of %d and %d", s.Counts[:min(len(s.Counts), 30)], people, person)
	list, ok := impl.SongOrder(s, people)
	failsList(t, "SongOrder"+name, list, ok)
	n, ok := impl.SongLast(s, people)
	failsNumber(t, "SongLast"+name, n, ok)
	failsPersonOfSong(t, s, people, person)
	for _, songs := range []int{person, 1, people} {
		list, ok = impl.SafePlaces(s, people, songs)
		failsList(t, "SafePlaces"+name, list, ok)
	}
	list, ok = impl.LastBySongs(s, people)
	failsList(t, "LastBySongs"+name, list, ok)
	if same, ok := impl.SameOrder(s, s, people); same || ok {
		t.Error("SameOrder", name, same, ok)
	}
}

func failsPersonOfSong(t *testing.T, s impl.Song, people, person int) {
	t.Helper()
	name := fmt.Sprintf(" by %v of %d and %d", s.Counts[:min(len(s.Counts), 30)], people, person)
	n, ok := impl.SongTurn(s, people, person)
	failsNumber(t, "SongTurn"+name, n, ok)
	list, ok := impl.SongLeft(s, people, person)
	failsList(t, "SongLeft"+name, list, ok)
	n, ok = impl.BestTurn(s, people, person)
	failsNumber(t, "BestTurn"+name, n, ok)
}

func TestCountsOfNoSong(t *testing.T) {
	for _, s := range noSongs() {
		failsOfSong(t, s)
	}
	for _, s := range songsThatComeAgain() {
		wantBool(t, fmt.Sprint("IsSong of ", s.Counts), impl.IsSong(s), true, true)
	}
}

func TestSongsOfNoPeopleOrTooMany(t *testing.T) {
	for _, s := range fewSongs() {
		for _, people := range noPeople {
			for _, person := range []int{math.MinInt, -1, 0, 1, people - 1, people, math.MaxInt} {
				failsToSing(t, s, people, person)
			}
		}
	}
}

func TestPeopleWhoDoNotSing(t *testing.T) {
	for _, s := range fewSongs() {
		for _, people := range []int{1, 2, 9, impl.MaxPeople} {
			for _, person := range []int{math.MinInt, math.MinInt + 1, -people, -1, people, people + 1, impl.MaxPeople, math.MaxInt - 1, math.MaxInt} {
				failsPersonOfSong(t, s, people, person)
			}
		}
	}
}

func TestSongsForNoOrders(t *testing.T) {
	lists := [][]int{
		upTo(impl.MaxCounts + 1), reversed(upTo(impl.MaxCounts + 1)), upTo(impl.MaxPeople), append(upTo(impl.MaxCounts-1), impl.MaxCounts), append(upTo(impl.MaxCounts-1), 0),
		append(upTo(impl.MaxCounts-1), -1), even(impl.MaxCounts, 0), append(upTo(18), 19, 19), append(upTo(18), math.MaxInt, math.MinInt),
	}
	for _, list := range append(lists, noOrders()...) {
		if slices.Equal(list, upTo(impl.MaxOrdered+1)) || slices.Equal(list, reversed(upTo(impl.MaxOrdered+1))) {
			// Songs are for more people than orders.
			continue
		}
		s, ok := impl.SongForOrder(list)
		failsSong(t, fmt.Sprint("SongForOrder of ", list[:min(len(list), 30)]), s, ok)
	}
}
