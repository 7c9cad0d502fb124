package tests

import (
	"math"
	"slices"
	"strings"
	"testing"

	"loop.example/g01295/impl"
)

// callPuzzle calls all functions of the chapter that take a puzzle, and returns all puzzles and lists of their results.
func callPuzzle(p impl.Puzzle, c impl.Clue, k int) ([]impl.Puzzle, [][]int) {
	impl.IsPuzzle(p)
	impl.CountSolutions(p)
	impl.FirstSolution(p)
	impl.IsSolved(p)
	impl.BestClue(p)
	impl.PuzzleText(p)
	dropped, _ := impl.DropClue(p, k)
	added, _ := impl.AddClue(p, c)
	harder, _ := impl.HarderPuzzle(p)
	people, _ := impl.PeopleOfSolutions(p)
	needless, _ := impl.NeedlessClues(p)
	left, _ := impl.LeftByClues(p)
	solutions, _ := impl.Solutions(p)
	return []impl.Puzzle{dropped, added, harder}, append([][]int{people, needless, left}, solutions...)
}

// puzzlesAndOthers are puzzles and others that are none.
func puzzlesAndOthers() []impl.Puzzle { return append(fewPuzzles(), noPuzzles()...) }

// spoil writes over clues and the room behind them.
func spoil(clues []impl.Clue) {
	_ = append(clues, clue(-77, -77, -77))
	whole := clues[:cap(clues)]
	for i := range whole {
		whole[i] = clue(-77, -77, -77)
	}
}

// cluesWithRoom returns the same clues with others behind them, and all of these.
func cluesWithRoom(p impl.Puzzle) (impl.Puzzle, []impl.Clue) {
	whole := slices.Concat(p.Clues, []impl.Clue{clue(1, 2, 0), clue(-7, 0, 1001), clue(5, 10, 0)})
	return impl.Puzzle{Clues: whole[:len(p.Clues)]}, whole
}

func TestPuzzlesNeverPanic(t *testing.T) {
	for _, p := range puzzlesAndOthers() {
		callPuzzle(p, clue(5, 10, 0), 0)
		for _, c := range noClues() {
			impl.AddClue(p, c)
		}
		for _, k := range extremes {
			impl.DropClue(p, k)
		}
	}
	for _, a := range extremes {
		for _, b := range extremes {
			for kind := -1; kind <= 6; kind++ {
				callPuzzle(puzzleOf(clue(kind, a, b)), clue(a, b, kind), a)
				impl.IsClue(clue(kind, a, b))
				impl.IsClue(clue(a, b, kind))
				impl.DoesFit(clue(kind, 2, 0), a, b)
				impl.DoesFit(clue(kind, a, b), 3, 3)
			}
			impl.MakePuzzle(a, b, 6, 1)
			impl.MakePuzzle(10, 12, a, b)
			impl.MakePuzzle(a, 1, 1, b)
			impl.MakePuzzle(1, a, b, 1)
		}
	}
}

func TestTextsOfPuzzlesNeverPanic(t *testing.T) {
	texts := append(noPuzzleTexts(), "", "3.1.0,2.0.0", "\xf0\x9f.\x98.0", "0.\xf0\x9f.0,\x98", strings.Repeat("4.0.0,", 6), strings.Repeat("4.\x00", 150))
	for _, text := range texts {
		impl.ParsePuzzle(text)
	}
}

func TestPuzzlesStayAsTheyAre(t *testing.T) {
	for _, given := range puzzlesAndOthers() {
		p, whole := cluesWithRoom(given)
		before := slices.Clone(whole)
		for _, k := range []int{-1, 0, 1, len(p.Clues) - 1, len(p.Clues), math.MaxInt} {
			puzzles, lists := callPuzzle(p, clue(2, 1, 0), k)
			for _, one := range puzzles {
				spoil(one.Clues)
			}
			for _, list := range lists {
				overwrite(list)
				_ = append(list, -77)
			}
		}
		if !slices.Equal(whole, before) {
			t.Fatal("an argument is changed:", before[:min(len(before), 9)])
		}
	}
}

// TestPuzzlesHaveTheirOwnRoom drops and adds clues where the argument has room for them.
func TestPuzzlesHaveTheirOwnRoom(t *testing.T) {
	base := puzzleOfText("5.10.0,1.3.1,1.5.0,1.4.2,3.9.0")
	room := slices.Clone(base.Clues)
	p := impl.Puzzle{Clues: room[:3]}
	added, ok := impl.AddClue(p, clue(4, 1, 1))
	wantPuzzle(t, "AddClue", added, ok, clue(5, 10, 0), clue(1, 3, 1), clue(1, 5, 0), clue(4, 1, 1))
	again, ok := impl.AddClue(p, clue(4, 2, 2))
	wantPuzzle(t, "AddClue again", again, ok, clue(5, 10, 0), clue(1, 3, 1), clue(1, 5, 0), clue(4, 2, 2))
	wantPuzzle(t, "what was added first", added, true, clue(5, 10, 0), clue(1, 3, 1), clue(1, 5, 0), clue(4, 1, 1))
	for k := range 3 {
		dropped, _ := impl.DropClue(p, k)
		other, _ := impl.DropClue(p, k)
		kept := slices.Clone(other.Clues)
		spoil(dropped.Clues)
		wantPuzzle(t, "what was dropped behind", other, true, kept...)
	}
	wantPuzzle(t, "the argument and its room", impl.Puzzle{Clues: room}, true, base.Clues...)
}

// TestHarderPuzzleIsNew has a puzzle of which no clue is taken out.
func TestHarderPuzzleIsNew(t *testing.T) {
	p := puzzleOfText("5.10.0,1.5.0,1.2.0")
	harder, ok := impl.HarderPuzzle(p)
	wantPuzzle(t, "HarderPuzzle", harder, ok, clue(5, 10, 0), clue(1, 5, 0), clue(1, 2, 0))
	spoil(harder.Clues)
	wantPuzzle(t, "the argument", p, true, clue(5, 10, 0), clue(1, 5, 0), clue(1, 2, 0))
}

func TestRoomBehindPuzzlesIsNotRead(t *testing.T) {
	room := puzzleOfText("5.10.0,1.3.1,1.5.0,1.4.2,3.9.0,2.0.0,0.2.0").Clues
	room = append(room, clue(-1, 0, 0))
	for size := range 7 {
		short, long := puzzleOf(slices.Clone(room[:size])...), puzzleOf(room[:size]...)
		puzzles, lists := callPuzzle(short, clue(3, 9, 0), 0)
		others, otherLists := callPuzzle(long, clue(3, 9, 0), 0)
		alike := slices.EqualFunc(puzzles, others, func(a, b impl.Puzzle) bool { return slices.Equal(a.Clues, b.Clues) })
		if !alike || !slices.EqualFunc(lists, otherLists, slices.Equal[[]int]) || !impl.IsPuzzle(long) {
			t.Error("the room behind clues is read:", size, puzzles, others)
		}
	}
}

func TestSolutionsShareNothing(t *testing.T) {
	for _, p := range fewPuzzles() {
		wantApart(t, "Solutions", func() ([][]int, bool) { return impl.Solutions(p) })
	}
}

func TestPuzzleCallsAreAlike(t *testing.T) {
	p := puzzleOfText("5.10.0,1.3.1,1.5.0,1.4.2")
	numbersOf := func(p impl.Puzzle) []int {
		numbers := []int{}
		for _, c := range p.Clues {
			numbers = append(numbers, c.Kind, c.A, c.B)
		}
		spoil(p.Clues)
		return numbers
	}
	calls := []func() []int{
		func() []int { p, _ := impl.ParsePuzzle("3.1.0,2.0.0"); return numbersOf(p) },
		func() []int { p, _ := impl.MakePuzzle(7, 3, 6, 5); return numbersOf(p) },
	}
	puzzles, lists := callPuzzle(p, clue(2, 1, 0), 2)
	for i := range puzzles {
		calls = append(calls, func() []int { puzzles, _ := callPuzzle(p, clue(2, 1, 0), 2); return numbersOf(puzzles[i]) })
	}
	for i := range lists {
		calls = append(calls, func() []int { _, lists := callPuzzle(p, clue(2, 1, 0), 2); return lists[i] })
	}
	wantAlike(t, calls)
}
