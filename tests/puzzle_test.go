package tests

import (
	"fmt"
	"math"
	"slices"
	"strings"
	"testing"

	"loop.example/g01295/impl"
)

func clue(kind, a, b int) impl.Clue { return impl.Clue{Kind: kind, A: a, B: b} }

func puzzleOf(clues ...impl.Clue) impl.Puzzle { return impl.Puzzle{Clues: clues} }

// clueTexts has the text of each clue that there is.
var clueTexts = writeClues()

func writeClues() map[string]impl.Clue {
	texts := map[string]impl.Clue{}
	for _, c := range allClues() {
		texts[fmt.Sprintf("%d.%d.%d", c.Kind, c.A, c.B)] = c
	}
	return texts
}

// puzzleOfText has a clue for each part of a text that is a clue's.
func puzzleOfText(text string) impl.Puzzle {
	var p impl.Puzzle
	for part := range strings.SplitSeq(text, ",") {
		if c, ok := clueTexts[part]; ok {
			p.Clues = append(p.Clues, c)
		}
	}
	return p
}

// told is a hidden circle that is counted out by walking.
type told struct {
	people, step int
	order        []int
}

// allTold are all hidden circles in the order of solutions.
var allTold = tellAll()

func tellAll() []told {
	var circles []told
	for people := range 10 {
		for step := range 12 {
			circles = append(circles, told{people + 1, step + 1, walkOut(people+1, step+1, 0, 1)})
		}
	}
	return circles
}

// fits says what the document says of each kind of clue.
func (h told) fits(c impl.Clue) bool {
	switch c.Kind {
	case 0:
		return h.people%c.A == c.B
	case 1:
		return h.step%c.A == c.B
	case 2:
		return h.order[len(h.order)-1] == c.A
	case 3:
		return h.order[0] == c.A
	case 4:
		return c.A < h.people && c.B < h.people && h.order[c.B] == c.A
	}
	return h.people >= c.A
}

// fitsAll leaves out the clue with an index, none for -1.
func (h told) fitsAll(p impl.Puzzle, without int) bool {
	for k, c := range p.Clues {
		if k != without && !h.fits(c) {
			return false
		}
	}
	return true
}

func solutionsOf(p impl.Puzzle, without int) [][]int {
	solutions := [][]int{}
	for _, h := range allTold {
		if h.fitsAll(p, without) {
			solutions = append(solutions, []int{h.people, h.step})
		}
	}
	return solutions
}

// allClues are all clues that there are.
func allClues() []impl.Clue {
	var clues []impl.Clue
	for a := 2; a <= 5; a++ {
		for b := range a {
			clues = append(clues, clue(0, a, b), clue(1, a, b))
		}
	}
	for a := range 10 {
		clues = append(clues, clue(2, a, 0), clue(3, a, 0), clue(5, a+1, 0))
		for b := range 10 {
			clues = append(clues, clue(4, a, b))
		}
	}
	return clues
}

// cluesOf returns clues that each fit a circle.
func (h told) cluesOf(count, seed int) []impl.Clue {
	var clues []impl.Clue
	all := slices.DeleteFunc(allClues(), func(c impl.Clue) bool { return !h.fits(c) })
	for _, n := range someCounts(count, len(all)-1, seed) {
		clues = append(clues, all[n])
	}
	return clues
}

// somePuzzles have no solution, one, or many: all puzzles of a single clue, some of any clues, and some that a circle fits.
func somePuzzles() []impl.Puzzle {
	puzzles := fewPuzzles()
	for _, c := range allClues() {
		puzzles = append(puzzles, puzzleOf(c))
	}
	all := allClues()
	for seed := range 120 {
		p := impl.Puzzle{}
		for _, n := range someCounts(seed%7, len(all)-1, seed) {
			p.Clues = append(p.Clues, all[n])
		}
		puzzles = append(puzzles, p, puzzleOf(allTold[seed].cluesOf(seed%7, seed+1)...), puzzleOf(allTold[seed].cluesOf(6, seed+2)...))
	}
	return puzzles
}

// fewPuzzles are puzzles of all sizes, those at the limits among them.
func fewPuzzles() []impl.Puzzle {
	puzzles := []impl.Puzzle{{}, {Clues: []impl.Clue{}}}
	for _, text := range []string{
		"3.1.0,2.0.0", "5.10.0,1.4.1", "0.2.0,0.2.1", "0.5.4,1.5.4", "2.9.0,3.9.0", "4.0.0", "4.9.9", "4.9.0,4.0.9", "5.1.0", "5.10.0,0.5.0,1.5.0,1.2.0",
		"5.10.0,1.3.1,1.5.0,1.4.2", "5.10.0,1.5.0,1.2.0", "5.10.0,5.10.0,5.10.0,5.10.0,5.10.0,5.10.0", "0.5.1,0.4.1,0.3.1,0.2.1,1.5.2,1.4.0",
		"2.0.0,2.0.0,2.1.0", "0.4.1,5.6.0,2.0.0,3.0.0",
	} {
		puzzles = append(puzzles, puzzleOfText(text))
	}
	return puzzles
}

func wantPuzzle(t *testing.T, name string, got impl.Puzzle, ok bool, want ...impl.Clue) {
	t.Helper()
	if !ok || !slices.Equal(got.Clues, want) {
		t.Errorf("%s: got %v, %v, want %v, true", name, got.Clues, ok, want)
	}
}

func failsPuzzle(t *testing.T, name string, got impl.Puzzle, ok bool) {
	t.Helper()
	if ok || len(got.Clues) != 0 {
		t.Errorf("%s: got %v, %v, want a failure without a value", name, got.Clues, ok)
	}
}

func TestPuzzleExample(t *testing.T) {
	p, ok := impl.ParsePuzzle("3.1.0,2.0.0")
	wantPuzzle(t, "1 goes first and 0 is left", p, ok, clue(3, 1, 0), clue(2, 0, 0))
	solutions, ok := impl.Solutions(p)
	if !ok || !slices.ContainsFunc(solutions, func(l []int) bool { return slices.Equal(l, []int{2, 2}) }) {
		t.Error("2 people by 2 are no solution:", solutions, ok)
	}
	for _, l := range solutions {
		order := walkOut(l[0], l[1], 0, 1)
		if order[0] != 1 || order[len(order)-1] != 0 {
			t.Error("a circle in which another one goes first or is left:", l, order)
		}
	}
	p, ok = impl.ParsePuzzle("5.10.0,1.4.1")
	wantPuzzle(t, "ten people", p, ok, clue(5, 10, 0), clue(1, 4, 1))
	list, ok := impl.LeftByClues(p)
	wantList(t, "LeftByClues", list, ok, []int{120, 12, 3})
	solutions, ok = impl.Solutions(p)
	wantRounds(t, "Solutions", solutions, ok, [][]int{{10, 1}, {10, 5}, {10, 9}})
	fits, ok := impl.DoesFit(clue(4, 9, 0), 5, 1)
	wantBool(t, "DoesFit of 4.9.0", fits, ok, false)
}

func TestPuzzleLimits(t *testing.T) {
	if impl.MaxHidden != 10 || impl.MaxHiddenStep != 12 || impl.MaxClues != 6 {
		t.Error("limits:", impl.MaxHidden, impl.MaxHiddenStep, impl.MaxClues)
	}
}

// TestPuzzlesByHand has what was found on paper.
func TestPuzzlesByHand(t *testing.T) {
	p := puzzleOfText("5.10.0,1.3.1,1.5.0,1.4.2")
	list, ok := impl.LeftByClues(p)
	wantList(t, "LeftByClues", list, ok, []int{120, 12, 4, 1, 1})
	people, step, ok := impl.FirstSolution(p)
	wantList(t, "FirstSolution", []int{people, step}, ok, []int{10, 10})
	list, ok = impl.NeedlessClues(p)
	wantList(t, "NeedlessClues", list, ok, []int{1, 2, 3})
	n, ok := impl.BestClue(p)
	wantNumber(t, "BestClue", n, ok, 0)
	harder, ok := impl.HarderPuzzle(p)
	wantPuzzle(t, "HarderPuzzle", harder, ok, clue(5, 10, 0), clue(1, 5, 0), clue(1, 4, 2))
	turned := puzzleOfText("1.4.2,1.5.0,1.3.1,5.10.0")
	harder, ok = impl.HarderPuzzle(turned)
	wantPuzzle(t, "HarderPuzzle of the clues from the last one on", harder, ok, clue(1, 5, 0), clue(1, 3, 1), clue(5, 10, 0))
	n, ok = impl.BestClue(turned)
	wantNumber(t, "BestClue from the last one on", n, ok, 3)
	p = puzzleOfText("0.2.0,5.5.0")
	list, ok = impl.PeopleOfSolutions(p)
	wantList(t, "PeopleOfSolutions", list, ok, []int{6, 8, 10})
	n, ok = impl.CountSolutions(p)
	wantNumber(t, "CountSolutions", n, ok, 36)
	p = puzzleOfText("1.2.0,0.2.0,1.2.1,0.2.1")
	n, ok = impl.BestClue(p)
	wantNumber(t, "BestClue of several", n, ok, 0)
	list, ok = impl.NeedlessClues(p)
	wantList(t, "NeedlessClues of two that do not agree, twice", list, ok, []int{0, 1, 2, 3})
}

// TestKindsByHand has a clue of each kind that just one circle of two fits.
func TestKindsByHand(t *testing.T) {
	for _, one := range []struct {
		c                      impl.Clue
		people, step           int
		otherPeople, otherStep int
	}{
		{clue(0, 5, 4), 9, 1, 10, 1},
		{clue(0, 2, 0), 10, 3, 5, 2},
		{clue(1, 5, 2), 1, 12, 1, 11},
		{clue(1, 3, 0), 7, 3, 3, 7},
		{clue(2, 3, 0), 7, 3, 7, 2},
		{clue(3, 2, 0), 7, 3, 7, 2},
		{clue(4, 6, 3), 7, 3, 6, 3},
		{clue(4, 3, 6), 7, 3, 3, 6},
		{clue(5, 7, 0), 7, 12, 6, 12},
	} {
		fits, ok := impl.DoesFit(one.c, one.people, one.step)
		wantBool(t, fmt.Sprint(one.c, " and ", one.people, " by ", one.step), fits, ok, true)
		fits, ok = impl.DoesFit(one.c, one.otherPeople, one.otherStep)
		wantBool(t, fmt.Sprint(one.c, " and ", one.otherPeople, " by ", one.otherStep), fits, ok, false)
	}
}

func TestEachClueAndCircle(t *testing.T) {
	for _, c := range allClues() {
		for _, h := range allTold {
			fits, ok := impl.DoesFit(c, h.people, h.step)
			wantBool(t, fmt.Sprint("DoesFit of ", c, " and ", h.people, " by ", h.step), fits, ok, h.fits(c))
		}
	}
}

// TestNobodyIsThere has a circle without a person A, which no clue of 4 fits, whatever its turn.
func TestNobodyIsThere(t *testing.T) {
	for people := 1; people <= 10; people++ {
		for turn := range 10 {
			for a := people; a < 10; a++ {
				fits, ok := impl.DoesFit(clue(4, a, turn), people, 3)
				wantBool(t, fmt.Sprint("a person ", a, " of ", people, " at ", turn), fits, ok, false)
			}
			fits, ok := impl.DoesFit(clue(4, 0, turn), people, 12)
			wantBool(t, fmt.Sprint("the turn ", turn, " of ", people), fits, ok, turn < people && walkOut(people, 12, 0, 1)[turn] == 0)
		}
	}
}

func TestClues(t *testing.T) {
	clues := allClues()
	if len(clues) != 158 {
		t.Fatal("there are 158 clues:", len(clues))
	}
	numbers := append([]int{4, 5, 6, 8, 9, 11, 12}, extremes...)
	for _, kind := range numbers {
		for _, a := range numbers {
			for _, b := range numbers {
				c := clue(kind, a, b)
				want := slices.Contains(clues, c)
				if impl.IsClue(c) != want || impl.IsPuzzle(puzzleOf(c)) != want || impl.IsPuzzle(puzzleOf(clue(4, 0, 0), c)) != want {
					t.Error("IsClue:", c, !want)
				}
			}
		}
	}
	for _, c := range clues {
		if !impl.IsClue(c) {
			t.Error("IsClue:", c, false)
		}
	}
}

func TestPuzzles(t *testing.T) {
	for _, p := range somePuzzles() {
		if !impl.IsPuzzle(p) {
			t.Error("IsPuzzle:", p, false)
		}
	}
	for _, p := range noPuzzles() {
		if impl.IsPuzzle(p) {
			t.Error("IsPuzzle:", p.Clues[:min(len(p.Clues), 20)], true)
		}
	}
}

func TestSolutions(t *testing.T) {
	for _, p := range somePuzzles() {
		name := fmt.Sprint(" of ", p)
		want := solutionsOf(p, -1)
		solutions, ok := impl.Solutions(p)
		wantRounds(t, "Solutions"+name, solutions, ok, want)
		n, ok := impl.CountSolutions(p)
		wantNumber(t, "CountSolutions"+name, n, ok, len(want))
		solved, ok := impl.IsSolved(p)
		wantBool(t, "IsSolved"+name, solved, ok, len(want) == 1)
		people, step, ok := impl.FirstSolution(p)
		if len(want) > 0 {
			wantList(t, "FirstSolution"+name, []int{people, step}, ok, want[0])
		} else if ok || people != 0 || step != 0 {
			t.Error("FirstSolution"+name, people, step, ok)
		}
		numbers := []int{}
		for _, l := range want {
			if !slices.Contains(numbers, l[0]) {
				numbers = append(numbers, l[0])
			}
		}
		slices.Sort(numbers)
		list, ok := impl.PeopleOfSolutions(p)
		wantList(t, "PeopleOfSolutions"+name, list, ok, numbers)
	}
}

// TestPuzzlesOfAllSorts looks whether the puzzles by which all functions are tested have no solution, one, and many.
func TestPuzzlesOfAllSorts(t *testing.T) {
	sorts := map[string]int{}
	for _, p := range somePuzzles() {
		sorts[fmt.Sprint(min(len(solutionsOf(p, -1)), 2))]++
		sorts[fmt.Sprint(len(p.Clues), " clues")]++
		if harder, ok := impl.HarderPuzzle(p); ok {
			sorts[fmt.Sprint(len(p.Clues)-len(harder.Clues), " taken out")]++
		}
	}
	for _, sort := range []string{"0", "1", "2", "0 clues", "1 clues", "6 clues", "0 taken out", "1 taken out", "2 taken out", "3 taken out", "4 taken out"} {
		if sorts[sort] < 2 {
			t.Error("few puzzles:", sort, sorts)
		}
	}
}

// TestNoClueAtAll has the puzzle that each hidden circle fits.
func TestNoClueAtAll(t *testing.T) {
	for _, p := range []impl.Puzzle{{}, {Clues: []impl.Clue{}}} {
		solutions, ok := impl.Solutions(p)
		if !ok || len(solutions) != 120 || !slices.Equal(solutions[0], []int{1, 1}) || !slices.Equal(solutions[119], []int{10, 12}) {
			t.Error("Solutions:", solutions, ok)
		}
		n, ok := impl.CountSolutions(p)
		wantNumber(t, "CountSolutions", n, ok, 120)
		people, step, ok := impl.FirstSolution(p)
		wantList(t, "FirstSolution", []int{people, step}, ok, []int{1, 1})
		list, ok := impl.PeopleOfSolutions(p)
		wantList(t, "PeopleOfSolutions", list, ok, []int{1, 2, 3, 4, 5, 6, 7, 8, 9, 10})
		solved, ok := impl.IsSolved(p)
		wantBool(t, "IsSolved", solved, ok, false)
		list, ok = impl.NeedlessClues(p)
		wantList(t, "NeedlessClues", list, ok, nil)
		list, ok = impl.LeftByClues(p)
		wantList(t, "LeftByClues", list, ok, []int{120})
		n, ok = impl.BestClue(p)
		failsNumber(t, "BestClue", n, ok)
		harder, ok := impl.HarderPuzzle(p)
		failsPuzzle(t, "HarderPuzzle", harder, ok)
		dropped, ok := impl.DropClue(p, 0)
		failsPuzzle(t, "DropClue", dropped, ok)
		added, ok := impl.AddClue(p, clue(5, 10, 0))
		wantPuzzle(t, "AddClue", added, ok, clue(5, 10, 0))
		text, ok := impl.PuzzleText(p)
		wantText(t, "PuzzleText", text, ok, "")
	}
	p, ok := impl.ParsePuzzle("")
	wantPuzzle(t, "ParsePuzzle", p, ok)
}

func TestNeedlessClues(t *testing.T) {
	for _, p := range somePuzzles() {
		needless := []int{}
		for k := range p.Clues {
			if len(solutionsOf(p, k)) == len(solutionsOf(p, -1)) {
				needless = append(needless, k)
			}
		}
		list, ok := impl.NeedlessClues(p)
		wantList(t, fmt.Sprint("NeedlessClues of ", p), list, ok, needless)
		for k := range p.Clues {
			dropped, _ := impl.DropClue(p, k)
			n, ok := impl.CountSolutions(dropped)
			wantBool(t, fmt.Sprint("NeedlessClues and DropClue of ", p, k), n == len(solutionsOf(p, -1)), ok, slices.Contains(list, k))
		}
	}
}

func TestDroppedClues(t *testing.T) {
	for _, p := range somePuzzles() {
		for k := range p.Clues {
			want := slices.Delete(slices.Clone(p.Clues), k, k+1)
			dropped, ok := impl.DropClue(p, k)
			wantPuzzle(t, fmt.Sprint("DropClue of ", p, k), dropped, ok, want...)
		}
		for _, k := range []int{math.MinInt, -1, len(p.Clues), len(p.Clues) + 1, 6, math.MaxInt} {
			dropped, ok := impl.DropClue(p, k)
			failsPuzzle(t, fmt.Sprint("DropClue of ", p, k), dropped, ok)
		}
	}
}

func TestAddedClues(t *testing.T) {
	for _, p := range somePuzzles() {
		for _, c := range []impl.Clue{clue(0, 2, 1), clue(5, 10, 0), clue(4, 9, 9)} {
			name := fmt.Sprint("AddClue of ", p, c)
			added, ok := impl.AddClue(p, c)
			if len(p.Clues) == 6 {
				failsPuzzle(t, name, added, ok)
				continue
			}
			wantPuzzle(t, name, added, ok, slices.Concat(p.Clues, []impl.Clue{c})...)
			dropped, ok := impl.DropClue(added, len(p.Clues))
			wantPuzzle(t, name+" and DropClue", dropped, ok, p.Clues...)
		}
		for _, c := range noClues() {
			added, ok := impl.AddClue(p, c)
			failsPuzzle(t, fmt.Sprint("AddClue of ", p, c), added, ok)
		}
	}
}

func TestLeftByClues(t *testing.T) {
	for _, p := range somePuzzles() {
		want := []int{}
		for count := range len(p.Clues) + 1 {
			want = append(want, len(solutionsOf(puzzleOf(p.Clues[:count]...), -1)))
		}
		list, ok := impl.LeftByClues(p)
		wantList(t, fmt.Sprint("LeftByClues of ", p), list, ok, want)
		if !ok || list[0] != 120 || !slices.IsSorted(reversed(list)) {
			t.Error("LeftByClues increases, or does not begin with all:", p, list)
		}
	}
}

func TestBestClues(t *testing.T) {
	for _, p := range somePuzzles() {
		if len(p.Clues) == 0 {
			continue
		}
		counts := []int{}
		for _, c := range p.Clues {
			counts = append(counts, len(solutionsOf(puzzleOf(c), -1)))
		}
		n, ok := impl.BestClue(p)
		wantNumber(t, fmt.Sprint("BestClue of ", p), n, ok, slices.Index(counts, slices.Min(counts)))
	}
}

func TestHarderPuzzles(t *testing.T) {
	for _, p := range somePuzzles() {
		name := fmt.Sprint("HarderPuzzle of ", p)
		solution := solutionsOf(p, -1)
		harder, ok := impl.HarderPuzzle(p)
		if len(solution) != 1 {
			failsPuzzle(t, name, harder, ok)
			continue
		}
		want := puzzleOf(p.Clues...)
		for at := 0; at < len(want.Clues); {
			if len(solutionsOf(want, at)) != 1 {
				at++
				continue
			}
			want = puzzleOf(slices.Concat(want.Clues[:at], want.Clues[at+1:])...)
		}
		wantPuzzle(t, name, harder, ok, want.Clues...)
		solutions, ok := impl.Solutions(harder)
		wantRounds(t, "Solutions of "+name, solutions, ok, solution)
		for k := range harder.Clues {
			dropped, _ := impl.DropClue(harder, k)
			solved, ok := impl.IsSolved(dropped)
			wantBool(t, fmt.Sprint("IsSolved without ", k, " of ", name), solved, ok, false)
		}
	}
}

// makeByHand makes a puzzle as the document says it, number by number.
func makeByHand(h told, clues, seed int) []impl.Clue {
	z := seed
	next := func() int {
		z = (z*157 + 2207) % 10007
		return z
	}
	made := []impl.Clue{}
	for range clues {
		c := impl.Clue{Kind: next() % 6}
		y := next()
		switch c.Kind {
		case 0:
			c.A = y%4 + 2
			c.B = h.people % c.A
		case 1:
			c.A = y%4 + 2
			c.B = h.step % c.A
		case 2:
			c.A = h.order[h.people-1]
		case 3:
			c.A = h.order[0]
		case 4:
			c.A = y % h.people
			c.B = slices.Index(h.order, c.A)
		case 5:
			c.A = y%h.people + 1
		}
		made = append(made, c)
	}
	return made
}

// wantMade wants a puzzle to be made that its circle fits.
func wantMade(t *testing.T, h told, clues, seed int) {
	t.Helper()
	name := fmt.Sprint("MakePuzzle of ", h.people, " by ", h.step, " with ", clues, " from ", seed)
	p, ok := impl.MakePuzzle(h.people, h.step, clues, seed)
	wantPuzzle(t, name, p, ok, makeByHand(h, clues, seed)...)
	for _, c := range p.Clues {
		fits, ok := impl.DoesFit(c, h.people, h.step)
		if !fits || !ok {
			t.Error(name, "has a clue that does not fit:", c)
		}
	}
	if !impl.IsPuzzle(p) {
		t.Error(name, "is no puzzle:", p)
	}
}

func TestMadePuzzles(t *testing.T) {
	for seed := range 10000 {
		wantMade(t, allTold[seed%len(allTold)], 6, seed)
	}
	for _, h := range allTold {
		for clues := range 7 {
			for _, seed := range []int{0, 1, 4711, 9998, 9999} {
				wantMade(t, h, clues, seed)
			}
		}
	}
}

// TestMadeByHand has the rows of numbers as they were found on paper: behind 0 come 2207, 8468, 752 and 187, behind 9999 comes 951.
func TestMadeByHand(t *testing.T) {
	p, ok := impl.MakePuzzle(7, 3, 2, 0)
	wantPuzzle(t, "MakePuzzle from 0", p, ok, clue(5, 6, 0), clue(2, 3, 0))
	p, ok = impl.MakePuzzle(1, 12, 0, 9999)
	wantPuzzle(t, "MakePuzzle without a clue", p, ok)
	p, ok = impl.MakePuzzle(10, 12, 1, 9999)
	wantPuzzle(t, "MakePuzzle from 9999", p, ok, clue(3, 1, 0))
}

func TestPuzzlesThatAreNotMade(t *testing.T) {
	for _, one := range [][4]int{
		{0, 1, 1, 1}, {11, 1, 1, 1}, {-1, 1, 1, 1}, {1, 0, 1, 1}, {1, 13, 1, 1}, {1, -3, 1, 1}, {1, 1, -1, 1}, {1, 1, 7, 1}, {1, 1, 1, -1}, {1, 1, 1, 10000},
		{1, 1, 0, 10000}, {11, 1, 0, 0}, {1, 13, 0, 0}, {math.MinInt, 1, 1, 1}, {1, math.MinInt, 1, 1}, {1, 1, math.MinInt, 1}, {1, 1, 1, math.MinInt},
		{math.MaxInt, 1, 1, 1}, {1, math.MaxInt, 1, 1}, {1, 1, math.MaxInt, 1}, {1, 1, 1, math.MaxInt}, {0, 0, 0, 0},
	} {
		p, ok := impl.MakePuzzle(one[0], one[1], one[2], one[3])
		failsPuzzle(t, fmt.Sprint("MakePuzzle of ", one), p, ok)
	}
}

func TestPuzzleTexts(t *testing.T) {
	for _, p := range somePuzzles() {
		parts := []string{}
		for _, c := range p.Clues {
			parts = append(parts, fmt.Sprintf("%d.%d.%d", c.Kind, c.A, c.B))
		}
		want := strings.Join(parts, ",")
		text, ok := impl.PuzzleText(p)
		wantText(t, fmt.Sprint("PuzzleText of ", p), text, ok, want)
		back, ok := impl.ParsePuzzle(want)
		wantPuzzle(t, "ParsePuzzle of "+want, back, ok, p.Clues...)
	}
	p, ok := impl.ParsePuzzle("0.2.0,1.5.4,2.9.0,3.0.0,4.9.9,5.10.0")
	wantPuzzle(t, "ParsePuzzle of all kinds", p, ok, clue(0, 2, 0), clue(1, 5, 4), clue(2, 9, 0), clue(3, 0, 0), clue(4, 9, 9), clue(5, 10, 0))
}

// noPuzzleTexts are texts that are no PuzzleTexts.
func noPuzzleTexts() []string {
	return []string{
		",", ".", "..", ",,", "0.2.0,", ",0.2.0", "0.2.0,,1.2.0", "0.2.0,1.2.0,", "0.2.", ".2.0", "0..0", "0.2.0.", ".0.2.0", "0.2.0..", "0", "0.2", "0,2,0", "0.2.0.0", "0.2.0,1.2",
		"0.2.0,1", "0.2.0,1.2.0.0", "0.2,0.1.2.0", "+0.2.0", "0.+2.0", "0.2.+0", "-0.2.0", "0.-2.0", "0.2.-0", "0.2.-1", "-1.2.0", "00.2.0", "0.02.0", "0.2.00", "0.2.0,0.2.01", "5.010.0",
		" 0.2.0", "0.2.0 ", "0 .2.0", "0. 2.0", "0.2. 0", "0.2.0, 1.2.0", "0.2.0 ,1.2.0", "0.2.0\n", "\n", " ", "\t0.2.0", "0.2.0\x00", "\x00", "0.2.0;1.2.0", "0-2-0", "0:2:0", "0.2.x", "a.b.c",
		"0x0.2.0", "0.2e0.0", "0.1_0.0", "٠.2.0", "0.２.0", "0.2.0\xff", "\xff",
		"6.2.0", "10.2.0", "7.0.0", "0.1.0", "0.6.0", "0.0.0", "0.2.2", "0.5.5", "1.1.0", "1.6.1", "1.3.3", "2.10.0", "2.0.1", "3.10.0", "3.1.1", "4.10.0", "4.0.10", "4.10.10", "5.0.0", "5.11.0",
		"5.1.1", "9999999999.2.0", "0.9223372036854775808.0", "0.2.9223372036854775807", "0.2.18446744073709551616", "18446744073709551616.2.0", strings.Repeat("9", 1000),
		"0.2.0,0.2.0,0.2.0,0.2.0,0.2.0,0.2.0,0.2.0", "0.2.0,0.2.0,0.2.0,0.2.0,0.2.0,0.2.0,", strings.Repeat("0.2.0,", 200000) + "0.2.0",
		strings.Repeat(",", 1000000), strings.Repeat(".", 1000000), strings.Repeat("0", 1000000),
	}
}

func TestTextsOfNoPuzzle(t *testing.T) {
	for _, text := range noPuzzleTexts() {
		p, ok := impl.ParsePuzzle(text)
		failsPuzzle(t, fmt.Sprintf("ParsePuzzle of %.60q", text), p, ok)
	}
	p, ok := impl.ParsePuzzle("0.2.0,0.2.0,0.2.0,0.2.0,0.2.0,0.2.0")
	wantPuzzle(t, "as many as may be", p, ok, slices.Repeat([]impl.Clue{clue(0, 2, 0)}, 6)...)
}

func TestChangedPuzzleTexts(t *testing.T) {
	taken := 0
	for _, text := range append(changedTexts("4.3.0,5.10.0"), changedTexts("1.5.4")...) {
		p, ok := impl.ParsePuzzle(text)
		want := puzzleOfText(text)
		if len(want.Clues) != strings.Count(text, ",")+1 {
			failsPuzzle(t, "ParsePuzzle of "+text, p, ok)
			continue
		}
		taken++
		wantPuzzle(t, "ParsePuzzle of "+text, p, ok, want.Clues...)
		back, ok := impl.PuzzleText(p)
		wantText(t, "PuzzleText of "+text, back, ok, text)
	}
	if taken < 40 {
		t.Error("few texts are taken:", taken)
	}
}

// noClues are no clues, each just out of the bounds of its kind or far from them.
func noClues() []impl.Clue {
	clues := []impl.Clue{
		{}, clue(-1, 2, 0), clue(6, 2, 0), clue(math.MinInt, 2, 0), clue(math.MaxInt, 2, 0),
		clue(0, 1, 0), clue(0, 6, 0), clue(0, 2, 2), clue(0, 5, 5), clue(0, 3, -1), clue(0, -2, 0), clue(0, 0, 0),
		clue(1, 1, 0), clue(1, 6, 0), clue(1, 2, 2), clue(1, 5, 5), clue(1, 3, -1), clue(1, -2, -3),
		clue(2, -1, 0), clue(2, 10, 0), clue(2, 3, 1), clue(2, 3, -1), clue(3, -1, 0), clue(3, 10, 0), clue(3, 3, 1), clue(3, 3, -1),
		clue(4, -1, 0), clue(4, 10, 0), clue(4, 0, -1), clue(4, 0, 10), clue(4, 10, 10), clue(5, 0, 0), clue(5, 11, 0), clue(5, -1, 0), clue(5, 3, 1), clue(5, 3, -1),
	}
	for kind := range 6 {
		for _, far := range []int{math.MinInt, math.MaxInt} {
			clues = append(clues, clue(kind, far, 0), clue(kind, 2, far), clue(kind, far, far))
		}
	}
	return clues
}

// noPuzzles are no puzzles.
func noPuzzles() []impl.Puzzle {
	fine := clue(5, 1, 0)
	puzzles := []impl.Puzzle{
		{Clues: slices.Repeat([]impl.Clue{fine}, 7)}, {Clues: slices.Repeat([]impl.Clue{fine}, 1000000)}, {Clues: slices.Repeat([]impl.Clue{{}}, 7)},
	}
	for _, bad := range noClues() {
		puzzles = append(puzzles, puzzleOf(bad), puzzleOf(bad, fine), puzzleOf(fine, bad), puzzleOf(fine, bad, fine), puzzleOf(fine, fine, fine, fine, fine, bad))
	}
	return puzzles
}

func TestCallsOfNoPuzzle(t *testing.T) {
	for _, p := range noPuzzles() {
		name := fmt.Sprint(" of ", p.Clues[:min(len(p.Clues), 9)])
		solutions, ok := impl.Solutions(p)
		if ok || len(solutions) != 0 {
			t.Error("Solutions"+name, solutions, ok)
		}
		n, ok := impl.CountSolutions(p)
		failsNumber(t, "CountSolutions"+name, n, ok)
		people, step, ok := impl.FirstSolution(p)
		failsNumber(t, "FirstSolution"+name, people, ok)
		failsNumber(t, "the step of FirstSolution"+name, step, ok)
		list, ok := impl.PeopleOfSolutions(p)
		failsList(t, "PeopleOfSolutions"+name, list, ok)
		if solved, ok := impl.IsSolved(p); solved || ok {
			t.Error("IsSolved"+name, solved, ok)
		}
		list, ok = impl.NeedlessClues(p)
		failsList(t, "NeedlessClues"+name, list, ok)
		list, ok = impl.LeftByClues(p)
		failsList(t, "LeftByClues"+name, list, ok)
		n, ok = impl.BestClue(p)
		failsNumber(t, "BestClue"+name, n, ok)
		harder, ok := impl.HarderPuzzle(p)
		failsPuzzle(t, "HarderPuzzle"+name, harder, ok)
		added, ok := impl.AddClue(p, clue(5, 1, 0))
		failsPuzzle(t, "AddClue"+name, added, ok)
		dropped, ok := impl.DropClue(p, 0)
		failsPuzzle(t, "DropClue"+name, dropped, ok)
		dropped, ok = impl.DropClue(p, len(p.Clues)-1)
		failsPuzzle(t, "DropClue of the last one"+name, dropped, ok)
		text, ok := impl.PuzzleText(p)
		if ok || text != "" {
			t.Error("PuzzleText"+name, text, ok)
		}
	}
}

func TestHarderPuzzleOfAPuzzleThatHasOneBadClue(t *testing.T) {
	p := puzzleOfText("5.10.0,1.5.0,1.2.0")
	for _, bad := range noClues() {
		harder, ok := impl.HarderPuzzle(puzzleOf(append(slices.Clone(p.Clues), bad)...))
		failsPuzzle(t, fmt.Sprint("HarderPuzzle with ", bad), harder, ok)
	}
}

func TestCirclesThatAreNotHidden(t *testing.T) {
	for _, c := range allClues() {
		for _, one := range [][2]int{
			{0, 1}, {11, 1}, {-1, 1}, {1, 0}, {1, 13}, {10, 13}, {11, 12}, {1, -1}, {0, 0}, {math.MinInt, 1}, {math.MaxInt, 1}, {1, math.MinInt}, {1, math.MaxInt},
			{math.MaxInt, math.MaxInt},
		} {
			if fits, ok := impl.DoesFit(c, one[0], one[1]); fits || ok {
				t.Error("DoesFit", c, one, fits, ok)
			}
		}
	}
	for _, c := range noClues() {
		for _, h := range allTold {
			if fits, ok := impl.DoesFit(c, h.people, h.step); fits || ok {
				t.Error("DoesFit", c, h.people, h.step, fits, ok)
			}
		}
	}
}
