package tests

import (
	"fmt"
	"slices"
	"strings"
	"testing"

	"loop.example/g01295/impl"
)

// desksAndOthers are desks and others that are none.
func desksAndOthers() []impl.Desk { return append(fewDesks(), noDesks()...) }

// deskWithRoom returns the same desk with others behind its people and lives, and all of these.
func deskWithRoom(d impl.Desk) (roomy impl.Desk, people, lives []int) {
	roomy = d
	roomy.Ring.People, people = withRoom(d.Ring.People)
	roomy.Cats.Lives, lives = withRoom(d.Cats.Lives)
	return roomy, people, lives
}

// spoilDesk writes over the lists of a desk and the room behind them, and appends to them.
func spoilDesk(d impl.Desk) {
	for _, list := range [][]int{d.Ring.People, d.Cats.Lives} {
		_ = append(list, -77)
		overwrite(list)
	}
}

// linesOfAllKinds change a desk, ask of it, fail, and are none.
func linesOfAllKinds() []string {
	return append(goodLines, "", "fly", "ring 1@1,1", "cats 2~", "step x", "people 201", "turn 1", "give 1 1", "go go", "even 1 10", "line\nline", strings.Repeat("x", impl.MaxScript+1))
}

func TestConsoleNeverPanics(t *testing.T) {
	lines := slices.Concat(whatLines(), linesOfAllKinds(), noScripts())
	for i, d := range desksAndOthers() {
		for k, line := range lines {
			if i < 4 || (i+k)%7 == 0 {
				impl.DeskLine(d, line)
			}
		}
		impl.IsDesk(d)
	}
	for _, a := range extremes {
		for _, b := range extremes {
			for _, c := range []int{0, 1, 9, a, b} {
				d := impl.Desk{Ring: impl.Ring{People: []int{a, c}, Step: b}, Cats: impl.Cats{Lives: []int{c, a}, Step: b}}
				impl.IsDesk(d)
				for _, line := range []string{"go", "order", "last", "losses", "show", "people 3", "step 3", "turn 1", "give 0 1", "even 2 2"} {
					impl.DeskLine(d, line)
				}
			}
			script := ""
			for _, name := range []string{"people", "step", "turn", "friends", "even", "give", "left", "table", "save", "rest", "by", "rank", "ring", "cats"} {
				script += fmt.Sprintf("%s %d\n%s %d %d\n", name, a, name, a, b)
			}
			impl.RunScript(script)
			impl.DeskAfter(script + fmt.Sprintf("ring %d@%d\ncats %d~%d\norder\nlosses\n", a, b, a, b))
			impl.FailedLines(script + fmt.Sprintf("ring 3@%d,%d\ncats 3~%d,%d\norder\nlosses\n", a, b, a, b))
		}
	}
	for _, script := range slices.Concat(lines, []string{"\xf0\x9f\n\x98", "\x00\n", "\n\n", " \n \n", "ring \xff@\n"}) {
		impl.RunScript(script)
		impl.DeskAfter(script)
		impl.FailedLines(script)
	}
}

func TestDesksStayAsTheyAre(t *testing.T) {
	for _, given := range desksAndOthers() {
		d, people, lives := deskWithRoom(given)
		peopleBefore, livesBefore := slices.Clone(people), slices.Clone(lives)
		for _, line := range linesOfAllKinds() {
			impl.IsDesk(d)
			behind, _, _ := impl.DeskLine(d, line)
			spoilDesk(behind)
			if !slices.Equal(people, peopleBefore) || !slices.Equal(lives, livesBefore) {
				t.Fatalf("the argument of %.40q is changed%s", line, deskName(given))
			}
		}
	}
}

// TestDesksBehindLinesAreApart writes to the ring of a desk behind a line, and then to its cats.
func TestDesksBehindLinesAreApart(t *testing.T) {
	for _, d := range fewDesks() {
		for _, line := range linesOfAllKinds() {
			behind, _, _ := impl.DeskLine(d, line)
			lives := slices.Clone(behind.Cats.Lives)
			_ = append(behind.Ring.People, -77)
			overwrite(behind.Ring.People)
			if !slices.Equal(behind.Cats.Lives, lives) {
				t.Errorf("people and lives behind %.40q share memory%s", line, deskName(d))
			}
		}
	}
}

// TestDeskBehindIsNotTheDesk goes on from a desk that is written to.
func TestDeskBehindIsNotTheDesk(t *testing.T) {
	first := impl.FirstDesk()
	for _, line := range []string{"show", "fly", "step 4", "step 0", "go", "turn 0", "give 0 1", "lives", "people 7"} {
		behind, _, _ := impl.DeskLine(first, line)
		kept, _, _ := impl.DeskLine(first, line)
		spoilDesk(behind)
		again, reply, ok := impl.DeskLine(first, line)
		wantDesk(t, "the desk behind "+line+" once more", again, ok, kept)
		spoilDesk(again)
		_, order, ok := impl.DeskLine(first, "order")
		wantText(t, "the order of the first desk after "+line+" and "+reply, order, ok, "2,5,1,6,4,0,3")
		_, losses, ok := impl.DeskLine(first, "losses")
		wantText(t, "the losses of the first desk after "+line, losses, ok, "1,0,2,1,0")
	}
}

func TestRoomBehindDesksIsNotRead(t *testing.T) {
	for _, given := range fewDesks() {
		d, _, _ := deskWithRoom(given)
		if !impl.IsDesk(d) {
			t.Error("the room behind is read:", deskName(given))
		}
		for _, line := range linesOfAllKinds() {
			behind, reply, ok := impl.DeskLine(given, line)
			other, otherReply, otherOk := impl.DeskLine(d, line)
			if !alikeDesks(behind, other) || reply != otherReply || ok != otherOk {
				t.Errorf("the room behind is read by %.40q%s", line, deskName(given))
			}
		}
	}
}

func TestConsoleCallsAreAlike(t *testing.T) {
	people := func(d impl.Desk, _ bool) []int { return d.Ring.People }
	lives := func(d impl.Desk, _ bool) []int { return d.Cats.Lives }
	script := "go\nstep 5\nfly\ngive 2 3\n"
	calls := []func() []int{
		func() []int { return people(impl.FirstDesk(), true) },
		func() []int { return lives(impl.FirstDesk(), true) },
		func() []int { return people(impl.DeskAfter("")) },
		func() []int { return lives(impl.DeskAfter("")) },
		func() []int { return people(impl.DeskAfter(script)) },
		func() []int { return lives(impl.DeskAfter(script)) },
		func() []int { l, _ := impl.FailedLines(script); return l },
	}
	wantAlike(t, calls)
	first, _ := impl.RunScript(script)
	kept := slices.Clone(first)
	clear(first[:cap(first)])
	second, ok := impl.RunScript(script)
	wantReplies(t, "RunScript once more", second, ok, kept)
}
