package tests

import (
	"fmt"
	"math"
	"regexp"
	"slices"
	"strings"
	"testing"

	"loop.example/g01295/impl"
)

// inLines are numbers of lines around all limits: 999999 is the greatest one that a line may have.
var inLines = []int{0, 1, 2, 3, 4, 6, 7, 8, 9, 10, 12, 13, 39, 40, 41, 199, 200, 201, 999998, 999999}

// listsInLines are orders, groups of people, and lists that are neither.
func listsInLines() [][]int {
	lists := append(manyOrders()[:150], noOrders()...)
	lists = append(lists, noGroups(7)...)
	lists = append(lists, []int{0}, []int{999999}, []int{0, 999999}, []int{0, 3}, []int{2, 5, 6}, upTo(12), upTo(13), upTo(500), []int{0, 1, 3, 2})
	return slices.DeleteFunc(lists, func(list []int) bool {
		return len(list) == 0 || len(list) > 500 || slices.Min(list) < 0 || slices.Max(list) > 999999
	})
}

func commas(list []int) string {
	parts := []string{}
	for _, n := range list {
		parts = append(parts, fmt.Sprint(n))
	}
	return strings.Join(parts, ",")
}

func writeRing(r impl.Ring) string { return fmt.Sprintf("%d@%s", r.Step, commas(r.People)) }

func writeCats(c impl.Cats) string { return fmt.Sprintf("%d~%s", c.Step, commas(c.Lives)) }

func deskName(d impl.Desk) string {
	return fmt.Sprintf(" on %.80s and %.80s", writeRing(d.Ring), writeCats(d.Cats))
}

// effect is what a line has to do.
type effect struct {
	line  string
	desk  impl.Desk
	reply string
}

// tells is the effect of a line that asks.
func tells(d impl.Desk, line, reply string, ok bool) effect {
	if !ok {
		reply = "no"
	}
	return effect{line, d, reply}
}

func tellsNumber(d impl.Desk, line string, n int, ok bool) effect {
	return tells(d, line, fmt.Sprint(n), ok)
}

func tellsList(d impl.Desk, line string, list []int, ok bool) effect {
	if len(list) == 0 {
		return tells(d, line, "-", ok)
	}
	return tells(d, line, commas(list), ok)
}

func setsRing(d impl.Desk, line string, r impl.Ring, ok bool) effect {
	if !ok {
		return effect{line, d, "no"}
	}
	return effect{line, impl.Desk{Ring: r, Cats: d.Cats}, writeRing(r)}
}

func setsCats(d impl.Desk, line string, c impl.Cats, ok bool) effect {
	if !ok {
		return effect{line, d, "no"}
	}
	return effect{line, impl.Desk{Ring: d.Ring, Cats: c}, writeCats(c)}
}

// effectsAlone are those of all lines of one word.
func effectsAlone(d impl.Desk) []effect {
	next, gone, goes := impl.StepRing(d.Ring)
	going := effect{"go", d, "no"}
	if goes {
		going = effect{"go", impl.Desk{Ring: next, Cats: d.Cats}, fmt.Sprint(gone)}
	}
	order, ordered := impl.RingOrder(d.Ring)
	losses, lost := impl.LossesOf(d.Cats)
	row, hasRow := impl.OrderOfCats(d.Cats)
	return []effect{
		going, {"show", d, writeRing(d.Ring)}, {"lives", d, writeCats(d.Cats)},
		tellsList(d, "order", order, ordered), tellsNumber(d, "last", order[len(order)-1], ordered),
		tellsList(d, "losses", losses, lost), tellsList(d, "gone", row, hasRow),
	}
}

// effectsOfOne are those of lines with one number.
func effectsOfOne(d impl.Desk, n int) []effect {
	people, isRing := impl.RingOf(n, d.Ring.Step)
	turned, turns := impl.TurnRing(d.Ring, n)
	step, saves := impl.StepForFriends(n)
	return []effect{
		setsRing(d, fmt.Sprint("people ", n), people, isRing),
		setsRing(d, fmt.Sprint("step ", n), impl.Ring{People: d.Ring.People, Step: n}, n > 0),
		setsRing(d, fmt.Sprint("turn ", n), turned, turns),
		tellsNumber(d, fmt.Sprint("friends ", n), step, saves),
	}
}

// effectsOfTwo are those of lines with two numbers.
func effectsOfTwo(d impl.Desk, n, k int) []effect {
	even, areCats := impl.EvenCats(n, k, d.Cats.Step)
	given, gives := impl.GiveLife(d.Cats, n, k)
	last, isLeft := impl.LastLeft(n, k)
	table, hasTable := impl.LastTable(n, k)
	return []effect{
		setsCats(d, fmt.Sprint("even ", n, " ", k), even, areCats),
		setsCats(d, fmt.Sprint("give ", n, " ", k), given, gives),
		tellsNumber(d, fmt.Sprint("left ", n, " ", k), last, isLeft),
		tellsList(d, fmt.Sprint("table ", n, " ", k), table, hasTable),
	}
}

// effectsOfList are those of lines with a list, and with a number before it.
func effectsOfList(d impl.Desk, n int, list []int) []effect {
	rest, isOrder := impl.RemaindersOf(list)
	step, isOut := impl.StepOfOrder(list)
	rank, hasRank := impl.RankOfOrder(list)
	saving, saves := impl.StepSaving(n, list)
	return []effect{
		tellsList(d, "rest "+commas(list), rest, isOrder),
		tellsNumber(d, "by "+commas(list), step, isOut),
		tellsNumber(d, "rank "+commas(list), rank, hasRank),
		tellsNumber(d, fmt.Sprint("save ", n, " ", commas(list)), saving, saves),
	}
}

// fewDesks have each ring and some cats.
func fewDesks() []impl.Desk {
	cats := []impl.Cats{
		{Lives: []int{2, 2, 2}, Step: 2}, {Lives: []int{1}, Step: 1}, {Lives: []int{9}, Step: impl.MaxStep}, {Lives: []int{1, 9, 3, 4}, Step: 7},
		{Lives: slices.Repeat([]int{impl.MaxLives}, impl.MaxLived), Step: 3}, {Lives: []int{8, 1}, Step: 999999},
	}
	desks := []impl.Desk{{Ring: impl.Ring{People: upTo(7), Step: 3}, Cats: cats[0]}}
	for i, r := range goodRings() {
		desks = append(desks, impl.Desk{Ring: r, Cats: cats[i%len(cats)]}, impl.Desk{Ring: r, Cats: cats[(i+1)%len(cats)]})
	}
	return desks
}

// manyDesks have all cats of chapter 3's tests, and rings of all sizes.
func manyDesks() []impl.Desk {
	desks := fewDesks()
	rings := goodRings()
	for i, c := range manyCats() {
		r := rings[i%len(rings)]
		if i%2 == 0 {
			size := i%60 + 1
			r = impl.Ring{People: reversed(upTo(900 + size)[900:]), Step: i + 1}
		}
		desks = append(desks, impl.Desk{Ring: r, Cats: c})
	}
	return desks
}

// noDesks are no desks, by their ring, by their cats, or by both.
func noDesks() []impl.Desk {
	first := fewDesks()[0]
	desks := []impl.Desk{{}, {Ring: first.Ring}, {Cats: first.Cats}}
	for _, r := range badRings() {
		desks = append(desks, impl.Desk{Ring: r, Cats: first.Cats}, impl.Desk{Ring: r})
	}
	for _, c := range noCats() {
		desks = append(desks, impl.Desk{Ring: first.Ring, Cats: c}, impl.Desk{Ring: badRings()[4], Cats: c})
	}
	return desks
}

func alikeDesks(a, b impl.Desk) bool {
	return a.Ring.Step == b.Ring.Step && a.Cats.Step == b.Cats.Step && slices.Equal(a.Ring.People, b.Ring.People) && slices.Equal(a.Cats.Lives, b.Cats.Lives)
}

func wantDesk(t *testing.T, name string, got impl.Desk, ok bool, want impl.Desk) {
	t.Helper()
	if !ok || !alikeDesks(got, want) {
		t.Errorf("%s: got%s, %v, want%s, true", name, deskName(got), ok, deskName(want))
	}
}

func failsDesk(t *testing.T, name string, got impl.Desk, ok bool) {
	t.Helper()
	if ok || !alikeDesks(got, impl.Desk{}) {
		t.Errorf("%s: got%s, %v, want a failure without a value", name, deskName(got), ok)
	}
}

func wantEffect(t *testing.T, d impl.Desk, want effect) {
	t.Helper()
	name := fmt.Sprintf("%.80q%s", want.line, deskName(d))
	got, reply, ok := impl.DeskLine(d, want.line)
	wantText(t, "the reply to "+name, reply, ok, want.reply)
	wantDesk(t, "the desk behind "+name, got, ok, want.desk)
}

// wantEffects wants the effects of lines, and that asking leaves the desk as it is.
func wantEffects(t *testing.T, d impl.Desk, effects []effect) {
	t.Helper()
	for _, want := range effects {
		wantEffect(t, d, want)
	}
}

func wantReplies(t *testing.T, name string, got []string, ok bool, want []string) {
	t.Helper()
	if !ok || !slices.Equal(got, want) {
		t.Errorf("%s: got %q, %v, want %q, true", name, got, ok, want)
	}
}

func TestConsoleExample(t *testing.T) {
	lines := []string{
		"order", "last", "go", "go", "show", "left 4 6", "save 4 2", "friends 3", "losses", "gone", "give 0 1", "rest 2,0,1", "by 2,0,1", "people 3", "step 0", "left 0 1", "ring 1@1,1", "fly",
	}
	replies := []string{
		"2,5,1,6,4,0,3", "3", "2", "5", "3@6,0,1,3,4", "2", "6", "5", "1,0,2,1,0", "1,0,2", "2~3,2,2", "0,1,0", "3", "3@0,1,2", "no", "no", "what", "what",
	}
	script := strings.Join(lines, "\n") + "\n"
	got, ok := impl.RunScript(script)
	wantReplies(t, "RunScript", got, ok, replies)
	d, ok := impl.DeskAfter(script)
	wantDesk(t, "DeskAfter", d, ok, impl.Desk{Ring: impl.Ring{People: []int{0, 1, 2}, Step: 3}, Cats: impl.Cats{Lives: []int{3, 2, 2}, Step: 2}})
	failed, ok := impl.FailedLines(script)
	wantList(t, "FailedLines", failed, ok, []int{15, 16, 17, 18})
}

func TestConsoleLimits(t *testing.T) {
	if impl.MaxScript != 3000 || impl.MaxLines != 50 {
		t.Error("limits:", impl.MaxScript, impl.MaxLines)
	}
}

func TestFirstDesk(t *testing.T) {
	d := impl.FirstDesk()
	wantDesk(t, "FirstDesk", d, impl.IsDesk(d), impl.Desk{Ring: impl.Ring{People: []int{0, 1, 2, 3, 4, 5, 6}, Step: 3}, Cats: impl.Cats{Lives: []int{2, 2, 2}, Step: 2}})
}

func TestDesks(t *testing.T) {
	for _, d := range manyDesks() {
		if !impl.IsDesk(d) {
			t.Error("IsDesk", deskName(d), false)
		}
	}
	for _, d := range noDesks() {
		if impl.IsDesk(d) {
			t.Error("IsDesk", deskName(d), true)
		}
		for _, line := range []string{"show", "lives", "order", "go", "left 4 6", "ring 3@0,1,2", "cats 2~1,1", "people 3", "even 3 3", "step 2", "fly", ""} {
			behind, reply, ok := impl.DeskLine(d, line)
			failsDesk(t, line+deskName(d), behind, ok)
			if reply != "" {
				t.Error("a reply on no desk:", line, deskName(d), reply)
			}
		}
	}
}

func TestLinesOfOneWord(t *testing.T) {
	for _, d := range manyDesks() {
		wantEffects(t, d, effectsAlone(d))
	}
}

func TestLinesWithNumbers(t *testing.T) {
	for _, d := range fewDesks() {
		for _, n := range inLines {
			wantEffects(t, d, effectsOfOne(d, n))
			for _, k := range inLines {
				wantEffects(t, d, effectsOfTwo(d, n, k))
			}
		}
	}
	for i, d := range manyDesks() {
		wantEffects(t, d, effectsOfOne(d, i%7))
		wantEffects(t, d, effectsOfOne(d, len(d.Ring.People)-1))
		wantEffects(t, d, effectsOfOne(d, len(d.Ring.People)))
		wantEffects(t, d, effectsOfTwo(d, len(d.Cats.Lives)-1, 9-d.Cats.Lives[0]))
		wantEffects(t, d, effectsOfTwo(d, len(d.Cats.Lives), 1))
		wantEffects(t, d, effectsOfTwo(d, i%5, i%11))
	}
}

func TestLinesWithLists(t *testing.T) {
	for i, list := range listsInLines() {
		for _, n := range []int{len(list), 7, i % 14, 999999} {
			d := fewDesks()[i%19]
			wantEffects(t, d, effectsOfList(d, n, list))
		}
	}
	for people := 1; people <= 7; people++ {
		for set := 1; set < 1<<people; set++ {
			saved := slices.DeleteFunc(upTo(people), func(p int) bool { return set>>p&1 == 0 })
			d := fewDesks()[set%19]
			wantEffects(t, d, effectsOfList(d, people, saved))
		}
	}
}

// TestLinesWithTexts sets each ring and all cats on desks that have others.
func TestLinesWithTexts(t *testing.T) {
	desks := manyDesks()
	for i, given := range desks {
		d := desks[(i*37+11)%len(desks)]
		wantEffect(t, d, setsRing(d, "ring "+writeRing(given.Ring), given.Ring, true))
		wantEffect(t, d, setsCats(d, "cats "+writeCats(given.Cats), given.Cats, true))
	}
}

// TestLinesByHand has replies that were found on paper, on the first desk.
func TestLinesByHand(t *testing.T) {
	for line, want := range map[string]string{
		"order": "2,5,1,6,4,0,3", "last": "3", "go": "2", "show": "3@0,1,2,3,4,5,6", "lives": "2~2,2,2", "losses": "1,0,2,1,0", "gone": "1,0,2",
		"people 1": "3@0", "people 7": "3@0,1,2,3,4,5,6", "step 1": "1@0,1,2,3,4,5,6", "step 999999": "999999@0,1,2,3,4,5,6", "turn 0": "3@0,1,2,3,4,5,6",
		"turn 2": "3@2,3,4,5,6,0,1", "turn 6": "3@6,0,1,2,3,4,5", "ring 1000000@999": "1000000@999", "ring 2@5,0,999": "2@5,0,999", "cats 1000000~9": "1000000~9",
		"cats 1~1,2,3": "1~1,2,3", "even 1 9": "2~9", "even 4 1": "2~1,1,1,1", "give 2 7": "2~2,2,9", "give 0 0": "2~2,2,2", "left 7 3": "3", "left 1 999999": "0",
		"left 200 1": "199", "table 4 4": "3,0,0,1", "table 1 1": "0", "save 4 2": "6", "save 7 0,3": "3", "save 3 0,1,2": "1", "friends 1": "2", "friends 2": "7", "friends 4": "30",
		"rest 0": "0", "rest 2,0,1": "0,1,0", "rest 0,1,3,2": "1,1,0,0", "by 0": "1", "by 0,2,1": "4", "by 2,0,1": "3", "rank 0": "0", "rank 2,0,1": "4", "rank 0,1,3,2": "1",
		"rank 11,10,9,8,7,6,5,4,3,2,1,0": "479001599",
		"people 0":                       "no", "people 201": "no", "people 999999": "no", "step 0": "no", "turn 7": "no", "turn 999999": "no", "even 0 1": "no", "even 41 1": "no", "even 1 0": "no",
		"even 1 10": "no", "give 3 0": "no", "give 0 8": "no", "give 0 999999": "no", "give 999999 0": "no", "left 0 1": "no", "left 1 0": "no", "left 201 1": "no", "table 0 1": "no",
		"table 1 0": "no", "table 1 201": "no", "table 201 1": "no", "save 0 0": "no", "save 4 4": "no", "save 13 0": "no", "save 4 1,0": "no", "save 4 1,1": "no", "save 4 0,1,2,3,4": "no",
		"friends 0": "no", "friends 9": "no", "friends 999999": "no", "rest 1": "no", "rest 0,0": "no", "rest 0,999999": "no", "by 1": "no", "by 0,1,3,2": "no", "rank 1": "no",
		"rank 0,1,2,3,4,5,6,7,8,9,10,11,12": "no",
	} {
		_, reply, ok := impl.DeskLine(impl.FirstDesk(), line)
		wantText(t, "the reply to "+line, reply, ok, want)
	}
}

// TestAloneOnADesk has one person and one cat, of whom nobody goes.
func TestAloneOnADesk(t *testing.T) {
	d := impl.Desk{Ring: impl.Ring{People: []int{42}, Step: 5}, Cats: impl.Cats{Lives: []int{4}, Step: 6}}
	for line, want := range map[string]string{
		"go": "no", "order": "42", "last": "42", "show": "5@42", "turn 0": "5@42", "turn 1": "no", "losses": "-", "gone": "0", "lives": "6~4",
	} {
		wantEffect(t, d, effect{line, d, want})
	}
	got, ok := impl.RunScript(strings.Repeat("go\n", 8) + "show\norder\nlast\nstep 9\nturn 0\ngo\npeople 2\ngo\ngo\n")
	wantReplies(t, "all go", got, ok, []string{"2", "5", "1", "6", "4", "0", "no", "no", "3@3", "3", "3", "9@3", "9@3", "no", "9@0,1", "0", "no"})
}

// noNumbers are words that are no numbers of lines.
var noNumbers = []string{
	"", "+1", "-1", "-0", "+0", "00", "01", "007", "0000001", "1000000", "1000001", "9999999", "9223372036854775807", "9223372036854775808", "18446744073709551617", "99999999999999999999999999",
	"x", "1x", "x1", "0x1", "1e0", "1_0", "1.0", ".1", "1.", "1,", ",1", "1,2", ",", "-", "~", "@", "１", "٣", "1\x00", "\x001", "\t1", "1\t", "1\r", "\xff", "N", "one", "1@0", "2~1",
}

// noLists are words that are no lists of lines.
var noLists = []string{
	"", ",", ",,", "0,", ",0", "0,,1", "0,1,", ",0,1", "-", "+0", "-1", "0,-1", "0,+1", "00", "0,01", "0,1,002", "1000000", "0,1000000", "1000000,0", "0,9223372036854775808", "x", "0,x", "x,0",
	"0;1", "0.1", "0-1", "0,1.0", "0,0x1", "0,1e0", "0,1_0", "0,１", "0\t,1", "0,\t1", "0\x00", "\xff,0", "[0,1]", "0,1\r", "L",
}

// noRingTexts and noCatsTexts are words that are none of these.
var (
	noRingTexts = []string{
		"", "@", "3@", "@0", "3", "0,1", "0@0", "1000001@0", "03@0", "+3@0", "-3@0", "3@00", "3@+0", "3@-1", "3@1000", "3@0,", "3@,0", "3@0,,1", "3@1,1", "3@0,1,0", "3@0@1", "3@@0", "3~1,2", "3@0;1", "R", "3@x",
		"x@0", "3@0\t", "\t3@0", "3@0\r", "3@0\x00", "３@0", "3@" + commas(upTo(201)), "9223372036854775808@0",
	}
	noCatsTexts = []string{
		"", "~", "2~", "~1", "2", "1,1", "0~1", "1000001~1", "02~1", "+2~1", "-2~1", "2~0", "2~10", "2~01", "2~+1", "2~-1", "2~1,", "2~,1", "2~1,,1", "2~1,0", "2~1,10", "2~1~1", "2~~1", "2@1,2", "2~1;1", "C",
		"2~x", "x~1", "2~1\t", "\t2~1", "2~1\r", "２~1", "2~" + commas(slices.Repeat([]int{1}, 41)), "9223372036854775808~1",
	}
)

// goodLines are lines of all kinds, none of which is answered by what.
var goodLines = []string{
	"go", "show", "lives", "order", "last", "losses", "gone", "ring 3@0,1,2", "ring 1000000@999", "cats 2~1,2,3", "cats 1000000~9", "people 3", "people 0", "step 2", "step 0", "turn 0", "turn 999999",
	"friends 3", "friends 0", "rest 2,0,1", "rest 5", "by 0", "by 1,1", "rank 1,0", "rank 999999", "even 3 2", "even 0 0", "give 0 1", "give 9 9", "left 4 6", "left 0 0", "table 4 4", "table 999999 999999",
	"save 4 2", "save 3 0,1", "save 0 0",
}

// whatLines are no lines of the table.
func whatLines() []string {
	lines := []string{
		"", " ", "  ", "fly", "what", "no", "-", "0", "3@0,1", "2~1", "Order", "ORDER", "oRDER", "GO", "Go", "orders", "orde", "order\t", "order\r", "order\x00", "\x00", "\xff", "órder", "ring\t3@0,1", "left\t4\t6", "left 4\t6",
		"lastorder", "order,last", "order last", "go go", "show show", "left 4,6", "save 4,2", "save 2 4 2", "even 3,2", "give 0,1", "table 4,4", "rest 2 0 1", "by 2 0 1", "rank 1 0", "friends three",
		"save 0,1 3", "ring 3 0,1", "cats 2 1,1", "N", "ring R", "cats C", "people N", "even N K", "save N L", "ring 2~1,1", "cats 3@0,1",
	}
	for _, word := range noNumbers {
		for _, name := range []string{"people", "step", "turn", "friends"} {
			lines = append(lines, name+" "+word)
		}
		for _, name := range []string{"even", "give", "left", "table"} {
			lines = append(lines, name+" "+word+" 1", name+" 1 "+word, name+" "+word+" "+word, name+" 0 "+word, name+" "+word+" 999999")
		}
		lines = append(lines, "save "+word+" 0", "save "+word+" 0,1,2")
	}
	for _, word := range noLists {
		lines = append(lines, "rest "+word, "by "+word, "rank "+word, "save 3 "+word, "save 999999 "+word)
	}
	for _, word := range noRingTexts {
		lines = append(lines, "ring "+word)
	}
	for _, word := range noCatsTexts {
		lines = append(lines, "cats "+word)
	}
	return append(lines, spoiledLines()...)
}

// spoiledLines have words or blanks too many, a word too few, or capitals.
func spoiledLines() []string {
	var lines []string
	for _, line := range goodLines {
		for count := 2; count <= 5; count++ {
			lines = append(lines, line+strings.Repeat(" 0", count), line+strings.Repeat(" ", count), line+strings.Repeat(" "+line, count))
		}
		lines = append(lines, line+" ", " "+line, line+" 0", line+" x", "0 "+line, "x "+line, line+" "+line, "  "+line, strings.ToUpper(line), strings.ToUpper(line[:1])+line[1:])
		words := strings.Split(line, " ")
		if len(words) > 1 {
			lines = append(lines, strings.Join(words[:len(words)-1], " "), strings.Join(words[1:], " "), strings.Join(words, "  "), strings.Join(words, ""), words[0]+" ", words[0]+"  ")
		}
	}
	return lines
}

func TestLinesThatAreNone(t *testing.T) {
	desks := fewDesks()
	for i, line := range whatLines() {
		for _, d := range []impl.Desk{desks[0], desks[i%len(desks)]} {
			wantEffect(t, d, effect{line, d, "what"})
		}
	}
	for _, line := range goodLines {
		if _, reply, ok := impl.DeskLine(desks[0], line); !ok || reply == "what" || reply == "" {
			t.Error("a line of the table:", line, reply, ok)
		}
	}
}

// isLine reports whether a text is a line of the table, as the document writes these.
func isLine(text string) bool {
	name, word, _ := strings.Cut(text, " ")
	switch name {
	case "ring":
		_, ok := impl.ParseRing(word)
		return ok
	case "cats":
		_, ok := impl.ParseCats(word)
		return ok
	}
	return tableLines.MatchString(text)
}

// tableLines has N for a number and L for a list before these are put in.
var tableLines = regexp.MustCompile(strings.NewReplacer("N", "(0|[1-9][0-9]{0,5})", "L", "(0|[1-9][0-9]{0,5})(,(0|[1-9][0-9]{0,5}))*").Replace(
	`\A(go|show|lives|order|last|losses|gone|(people|step|turn|friends) N|(rest|by|rank) L|(even|give|left|table) N N|save N L)\z`))

func TestChangedLines(t *testing.T) {
	d := impl.FirstDesk()
	taken := 0
	for _, line := range append([]string{"even 12 8", "save 30 1,20", "left 199999 6", "rank 2,0,1", "people 19", "ring 30@12,1"}, goodLines...) {
		for _, text := range changedTexts(line) {
			behind, reply, ok := impl.DeskLine(d, text)
			switch {
			case strings.Contains(text, "\n"):
				failsDesk(t, fmt.Sprintf("%q", text), behind, ok)
				wantText(t, fmt.Sprintf("the reply to %q", text), reply, !ok, "")
			case isLine(text):
				taken++
				if !ok || reply == "what" {
					t.Errorf("%q is a line: %v, %v", text, reply, ok)
				}
			default:
				wantText(t, fmt.Sprintf("the reply to %q", text), reply, ok, "what")
				wantDesk(t, fmt.Sprintf("the desk behind %q", text), behind, ok, d)
			}
		}
	}
	if taken < 1000 {
		t.Error("few lines are taken:", taken)
	}
}

// TestWhatGoesBeforeNo has words that are none of their kind, in lines whose function would fail anyway.
func TestWhatGoesBeforeNo(t *testing.T) {
	d := impl.FirstDesk()
	for _, line := range []string{
		"left 0 x", "left x 0", "even 0 1000000", "give 9 -1", "table 0 ", "save 0 ", "save 99 0,", "save 99 1000000", "people 1000000", "turn 1000000", "step 1000000", "friends 1000000", "rest 9,9,", "by 1,01", "people 0 0",
		"left 0 0 0", "left 0", "save 0",
	} {
		wantEffect(t, d, effect{line, d, "what"})
	}
}

func TestLongLines(t *testing.T) {
	for _, d := range fewDesks() {
		for _, start := range []string{"", "rest ", "rank ", "save 3 ", "people ", "ring ", "ring 3@", "cats 2~", "order "} {
			for _, part := range []string{"a", " ", ",", "9", "0", "\x00", "\xff"} {
				line := start + strings.Repeat(part, impl.MaxScript-len(start))
				wantEffect(t, d, effect{line, d, "what"})
				failsLine(t, d, line+part)
			}
		}
		for _, start := range []string{"by ", "rest ", "rank ", "save 7 ", "save 7 1"} {
			list := strings.Repeat("0,", impl.MaxScript)[:impl.MaxScript-len(start)-1] + "0"
			if (impl.MaxScript-len(start))%2 == 0 {
				list = "10," + strings.Repeat("0,", impl.MaxScript)[:impl.MaxScript-len(start)-4] + "0"
			}
			line := start + list
			if len(line) != impl.MaxScript || !isLine(line) {
				t.Fatal("the line has not the length it should have, or is none:", start, len(line))
			}
			wantEffect(t, d, effect{line, d, "no"})
			failsLine(t, d, line+"0")
		}
	}
}

func failsLine(t *testing.T, d impl.Desk, line string) {
	t.Helper()
	name := fmt.Sprintf("DeskLine of %d bytes, %.40q", len(line), line)
	behind, reply, ok := impl.DeskLine(d, line)
	failsDesk(t, name, behind, ok)
	wantText(t, name, reply, !ok, "")
}

func TestLinesWithNewlines(t *testing.T) {
	for _, d := range fewDesks() {
		for _, line := range []string{"\n", "order\n", "\norder", "or\nder", "order\nlast", "order\nlast\n", "left 4\n6", "left 4 6\n", "fly\n", "ring 3@0,1\n", strings.Repeat("\n", impl.MaxScript), strings.Repeat("a", impl.MaxScript-1) + "\n"} {
			failsLine(t, d, line)
		}
		failsLine(t, d, strings.Repeat("a", 1000000))
	}
}

// someScript has lines that follow a rule without much order.
func someScript(count, seed int) []string {
	pool := slices.Concat(goodLines, goodLines, goodLines[:7], goodLines[:7], []string{
		"", "fly", "step 5", "step 17", "turn 1", "turn 2", "turn 3", "people 9", "people 14", "even 5 4", "even 2 1", "give 1 3", "give 2 5", "ring 4@9,8,7,6,5,4", "cats 3~1,1,2,4,9", "order ", "Go", "left 1", "people x",
	})
	var lines []string
	for _, n := range someCounts(count, len(pool)-1, seed) {
		lines = append(lines, pool[n])
	}
	return lines
}

// wantScript wants a script to do what its lines do one after the other.
func wantScript(t *testing.T, lines []string) {
	t.Helper()
	script := ""
	desk := impl.FirstDesk()
	replies, failed := []string{}, []int{}
	for i, line := range lines {
		script += line + "\n"
		behind, reply, ok := impl.DeskLine(desk, line)
		if !ok {
			t.Fatalf("DeskLine of %.80q fails", line)
		}
		desk = behind
		replies = append(replies, reply)
		if reply == "no" || reply == "what" {
			failed = append(failed, i+1)
		}
	}
	name := fmt.Sprintf(" of %.200q", script)
	got, ok := impl.RunScript(script)
	wantReplies(t, "RunScript"+name, got, ok, replies)
	d, ok := impl.DeskAfter(script)
	wantDesk(t, "DeskAfter"+name, d, ok, desk)
	list, ok := impl.FailedLines(script)
	wantList(t, "FailedLines"+name, list, ok, failed)
}

func TestScripts(t *testing.T) {
	for seed := range 1500 {
		wantScript(t, someScript(seed%51, seed))
	}
	for _, line := range append(whatLines(), goodLines...) {
		wantScript(t, []string{line})
		wantScript(t, []string{"go", line, "give 0 1", line, "order"})
	}
}

// TestScriptsByHand has what was found on paper.
func TestScriptsByHand(t *testing.T) {
	script := "cats 1~1,2\n\nlosses\nring 2@4,5,6\ngo\nturn 1\nshow\nfly\nstep 0\nstep 4\ngo\npeople 2\norder\neven 2 3\n give 0 1\ngive 1 6\nlives\ngive 1 1\n"
	got, ok := impl.RunScript(script)
	wantReplies(t, "RunScript", got, ok, []string{"1~1,2", "what", "0", "2@4,5,6", "5", "2@4,6", "2@4,6", "what", "no", "4@4,6", "6", "4@0,1", "1,0", "1~3,3", "what", "1~3,9", "1~3,9", "no"})
	list, ok := impl.FailedLines(script)
	wantList(t, "FailedLines", list, ok, []int{2, 8, 9, 15, 18})
	d, ok := impl.DeskAfter(script)
	wantDesk(t, "DeskAfter", d, ok, impl.Desk{Ring: impl.Ring{People: []int{0, 1}, Step: 4}, Cats: impl.Cats{Lives: []int{3, 9}, Step: 1}})
	list, ok = impl.FailedLines("order\nlives\nleft 4 6\n")
	wantList(t, "FailedLines of lines that do not fail", list, ok, nil)
}

func TestEmptyScript(t *testing.T) {
	got, ok := impl.RunScript("")
	wantReplies(t, "RunScript", got, ok, nil)
	d, ok := impl.DeskAfter("")
	wantDesk(t, "DeskAfter", d, ok, impl.FirstDesk())
	list, ok := impl.FailedLines("")
	wantList(t, "FailedLines", list, ok, nil)
	got, ok = impl.RunScript("\n")
	wantReplies(t, "RunScript of an empty line", got, ok, []string{"what"})
	list, ok = impl.FailedLines("\n")
	wantList(t, "FailedLines of an empty line", list, ok, []int{1})
	d, ok = impl.DeskAfter("\n")
	wantDesk(t, "DeskAfter of an empty line", d, ok, impl.FirstDesk())
}

func TestGreatScripts(t *testing.T) {
	for _, line := range []string{"", "go", "order", "friends 8", "table 200 14", "fly", strings.Repeat("x", 59), strings.Repeat(" ", 59)} {
		wantScript(t, slices.Repeat([]string{line}, impl.MaxLines))
	}
	wantScript(t, []string{strings.Repeat("x", impl.MaxScript-1)})
	wantScript(t, []string{"go", strings.Repeat("x", impl.MaxScript-10), "order"})
	wantScript(t, []string{"rank 0," + strings.Repeat("1,", impl.MaxScript)[:impl.MaxScript-9] + "1"})
	got, ok := impl.RunScript(strings.Repeat("table 200 200\n", 50))
	if !ok || len(got) != 50 || strings.Count(got[49], ",") != 199 {
		t.Error("fifty tables:", len(got), ok)
	}
}

// noScripts are texts that are no scripts.
func noScripts() []string {
	return []string{
		"order", "go", " ", "x", "\n ", "\norder", "order\nlast", "order\nlast\n ", "order\r", "order\\n", "order\x00", "order\n\x00", "fly\ngo\nshow",
		strings.Repeat("go\n", impl.MaxLines+1), strings.Repeat("\n", impl.MaxLines+1), strings.Repeat("go\n", impl.MaxLines) + "go", strings.Repeat("\n", impl.MaxScript), strings.Repeat("\n", 1000000),
		strings.Repeat("x", impl.MaxScript) + "\n", strings.Repeat("x", impl.MaxScript), strings.Repeat("x", impl.MaxScript-1) + "y", "go\n" + strings.Repeat("x", impl.MaxScript-3) + "\n",
		strings.Repeat(strings.Repeat("x", 59)+"\n", 49) + strings.Repeat("x", 60) + "\n", strings.Repeat("go\n", 1000000), strings.Repeat("x", 10000000),
	}
}

func TestTextsOfNoScript(t *testing.T) {
	for _, script := range noScripts() {
		name := fmt.Sprintf(" of %d bytes, %.40q", len(script), script)
		got, ok := impl.RunScript(script)
		if ok || len(got) != 0 {
			t.Error("RunScript"+name, len(got), ok)
		}
		d, ok := impl.DeskAfter(script)
		failsDesk(t, "DeskAfter"+name, d, ok)
		list, ok := impl.FailedLines(script)
		failsList(t, "FailedLines"+name, list, ok)
	}
}

// TestOtherEndsOfLines has scripts whose lines end with other bytes as well, which are of the words then.
func TestOtherEndsOfLines(t *testing.T) {
	got, ok := impl.RunScript("order\r\nlast\nlast\v\n\flast\nlast\u2028\n")
	wantReplies(t, "RunScript", got, ok, []string{"what", "3", "what", "what", "what"})
}

// TestConsoleAndOtherChapters has the relations between lines that the document has between calls.
func TestConsoleAndOtherChapters(t *testing.T) {
	for people := 1; people <= 12; people++ {
		for step := 1; step <= 30; step++ {
			set := fmt.Sprintf("people %d\nstep %d\n", people, step)
			replies, ok := impl.RunScript(set + "order\nlast\n" + strings.Repeat("go\n", people))
			if !ok {
				t.Fatal("the script fails:", set)
			}
			order := walkOut(people, step, 0, 1)
			wantText(t, "order behind "+set, replies[2], ok, commas(order))
			wantText(t, "last behind "+set, replies[3], ok, fmt.Sprint(order[people-1]))
			wantText(t, "go behind "+set, strings.Join(replies[4:people+3], ","), ok, commas(order[:people-1]))
			wantText(t, "one go more behind "+set, replies[people+3], ok, "no")
			replies, ok = impl.RunScript(fmt.Sprintf("by %s\nleft %d %d\ntable %d %d\n", commas(order), people, step, people, step))
			least := 1
			for !slices.Equal(walkOut(people, least, 0, 1), order) {
				least++
			}
			wantText(t, "by behind "+set, replies[0], ok, fmt.Sprint(least))
			wantText(t, "left behind "+set, replies[1], ok, fmt.Sprint(order[people-1]))
			if table := strings.Split(replies[2], ","); len(table) != step || table[step-1] != replies[1] {
				t.Error("the table ends with another one:", replies)
			}
		}
	}
}

// TestExtremeDesks has desks whose numbers are around the limits of int.
func TestExtremeDesks(t *testing.T) {
	for _, n := range []int{math.MinInt, -1, 0, 1000001, math.MaxInt} {
		first := impl.FirstDesk()
		for _, d := range []impl.Desk{
			{Ring: impl.Ring{People: []int{0, 1}, Step: n}, Cats: first.Cats}, {Ring: first.Ring, Cats: impl.Cats{Lives: []int{1, 2}, Step: n}},
			{Ring: impl.Ring{People: []int{0, n, 2, 0}, Step: 2}, Cats: first.Cats}, {Ring: first.Ring, Cats: impl.Cats{Lives: []int{1, n, 10}, Step: 1}},
		} {
			failsLine(t, d, "show")
			failsLine(t, d, "ring 3@0,1")
		}
	}
}
