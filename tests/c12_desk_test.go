package tests

import (
	"fmt"
	"math"
	"slices"
	"strings"
	"sync"
	"testing"

	"loop.example/shapesoftrees/impl"
)

// deskCommands are the first words of lines that the desk knows.
var deskCommands = []string{"rank", "next", "arms", "cuts", "word", "tree", "park"}

// deskCases are lines that were answered by hand.
var deskCases = []struct{ line, answer string }{
	{"rank ()", "0"}, {"rank (())", "0"}, {"rank ()()", "1"}, {"rank (())()", "2"}, {"rank ()()()", "4"},
	{"rank ((((((((()))))))))", "0"}, {"rank ()()()()()()()()()", "4861"},
	{"next (())", "()()"}, {"next ((()))", "(()())"}, {"next (())()", "()(())"},
	{"next ((((((((()))))))))", "(((((((()())))))))"}, {"next ()()()()()()()(())", "()()()()()()()()()"},
	{"arms ()", "-1,-1"}, {"arms (())", "1,-1/-1,-1"}, {"arms ()()", "-1,1/-1,-1"}, {"arms (())()", "1,2/-1,-1/-1,-1"},
	{"arms ()()()()()()()()()", "-1,1/-1,2/-1,3/-1,4/-1,5/-1,6/-1,7/-1,8/-1,-1"},
	{"cuts ()", "0,1,2"}, {"cuts (())", "0,2,3/0,1,2"}, {"cuts (())()", "0,2,4/0,1,2/2,3,4"},
	{"cuts ((((((((()))))))))", "0,9,10/0,8,9/0,7,8/0,6,7/0,5,6/0,4,5/0,3,4/0,2,3/0,1,2"},
	{"word 1 0", "()"}, {"word 2 0", "(())"}, {"word 2 1", "()()"}, {"word 3 2", "(())()"}, {"word 3 4", "()()()"},
	{"word 9 0", "((((((((()))))))))"}, {"word 9 4861", "()()()()()()()()()"},
	{"tree 3 0", "0,1/0,2 (()())"}, {"tree 3 2", "0,2/1,2 (()())"}, {"tree 4 0,2", "0,1/0,2/2,3 ((())())"},
	{"tree 4 3,3", "0,3/1,3/2,3 (()()())"}, {"tree 7 6,6,6,6,6", "0,6/1,6/2,6/3,6/4,6/5,6 (()()()()()())"},
	{"tree 7 1,2,3,4,5", "0,1/1,2/2,3/3,4/4,5/5,6 (((()))((())))"},
	{"park 0", "0"}, {"park 1", "-1"}, {"park 0,0", "0,1"}, {"park 2,2", "-1,-1"}, {"park 1,0,0", "1,0,2"}, {"park 1,1,1", "1,2,-1"},
	{"park 7,6,5,4,3,2,1,0", "7,6,5,4,3,2,1,0"}, {"park 8,0,0,0,0,0,0,0", "-1,0,1,2,3,4,5,6"}, {"park 7,7,7,7,7,7,7,7", "7,-1,-1,-1,-1,-1,-1,-1"},
	// The empty word is of no rows, and the answer is an empty line.
	{"rank ", "0"}, {"next ", "none"}, {"arms ", ""}, {"cuts ", ""}, {"word 0 0", ""},
	// There is nothing behind the last word of a number of pairs.
	{"next ()", "none"}, {"next ()()", "none"}, {"next ()()()()()()", "none"}, {"next ()()()()()()()()()", "none"},
}

// wrongLines begin with a command and are wrong.
var wrongLines = []string{
	// A command alone, and one with a space that needs more.
	"rank", "next", "arms", "cuts", "word", "tree", "park", "word ", "tree ", "park ",
	// Spaces too many, behind the command, between and at the end.
	"rank  ", "rank  ()", "rank () ", "rank ( )", "rank () ()", "next  (())", "next (()) ", "next (()) (())", "arms  ", "arms () ", "cuts  ", "cuts () ",
	"word  3 4", "word 3  4", "word 3 4 ", "word  0 0", "word 0 0 ", "tree  4 0,2", "tree 4  0,2", "tree 4 0,2 ", "tree 4 0, 2", "tree 4 0 ,2", "tree 4 0 2",
	"park  0", "park 0 ", "park 0, 0", "park 0 ,0", "park 0 0", "park  ", "word   ", "tree  ",
	// Spaces too few.
	"word 3", "word 3 ", "word 34", "word  4", "tree 4", "tree 4 ", "tree 40,2", "tree  0,2", "tree 0,2",
	// Other blanks than spaces.
	"rank ()\n", "rank ()\r", "rank \t()", "rank \n", "next (())\t", "arms \n()", "cuts ()\x00", "word 3\t4", "word 3 4\n", "word \t3 4", "word 3\n4",
	"tree 4\t0,2", "tree 4 0,2\n", "tree 4 0,\n2", "park 0\n", "park \t0", "park 0\u00a0", "park \x000",
	// Something behind the command.
	"rank () x", "rank ()x", "rank x", "rank 0", "next (()),", "next (())/()", "arms () 1", "cuts ();", "word 3 4 5", "word 3 4,", "word 3 4,4", "word 3 4 x", "word 3,4",
	"tree 4 0,2 x", "tree 4 0,2/", "tree 4 0,2 ((())())", "tree 4 0,2,", "park 0 x", "park 0/", "park 0;", "park 0 0", "rank rank ()", "park park 0",
	// Words that are none.
	"rank (", "rank )", "rank )(", "rank (()", "rank ())", "next (", "next )()(", "arms (", "arms ]", "arms []", "cuts )", "cuts ())(", "rank \"()\"", "rank \uff08\uff09",
	"rank (((((((((())))))))))", "next (((((((((())))))))))", "arms ()()()()()()()()()()", "cuts ()()()()()()()()()()", "next ()()()()()()()()()()",
	// Numbers with zeros in front, with a plus, and a sign in front of 0.
	"word 03 4", "word 3 04", "word 00 0", "word 0 00", "word +3 4", "word 3 +4", "word +0 0", "word -0 0", "word 0 -0", "word 0 +0",
	"tree 04 0,2", "tree 4 00,2", "tree 4 0,02", "tree +4 0,2", "tree 4 +0,2", "tree 4 -0,2", "tree 4 0,+2", "tree 3 00", "tree 3 -0", "tree 3 +0",
	"park 00", "park 01", "park +0", "park -0", "park 0,00", "park 0,-0", "park 0,+1", "park +1,0", "park 01,0",
	// Numbers that are none.
	"word x 0", "word 3 x", "word 3. 4", "word 3 4.0", "word 0x3 4", "word 3 0x4", "word 3 1_0", "word 3 1e0", "word - 0", "word 0 -", "word --0 0", "word three 4",
	"word 3 \u0664", "word \uff13 4", "word ()", "tree x 0", "tree 3 x", "tree 3 0.", "tree 3 -", "tree 4 0;2", "tree 4 0/2", "tree 4 0.2", "tree 4 (0,2)", "tree 4 [0,2]",
	"park x", "park -", "park 0,x", "park 0x0", "park 0.0", "park [0]", "park 1e0", "park 0_0", "park ()", "park 0/0", "park none",
	// Ranks and numbers of pairs that are not there.
	"word 0 1", "word 1 1", "word 2 2", "word 3 5", "word 9 4862", "word 10 0", "word 10 1", "word 100 0", "word -1 0", "word -3 4", "word 0 -1", "word 3 -1", "word 9 -1", "word -1 -1",
	// Numbers that are too large, also if the last bits of them are right.
	"word 9223372036854775807 0", "word 9223372036854775808 0", "word 18446744073709551619 4", "word 3 18446744073709551620", "word 3 9223372036854775807",
	"word 3 -9223372036854775808", "word 3 -18446744073709551612", "word 4294967299 4", "word 3 4294967300", "word 259 4", "word 3 260",
	"tree 18446744073709551619 0", "tree 3 18446744073709551616", "tree 3 4294967296", "tree 9223372036854775807 0", "tree -9223372036854775808 0",
	"park 18446744073709551616", "park 9223372036854775808", "park 9223372036854775807", "park -9223372036854775808", "park 4294967296", "park 256",
	// Codes too short, too long, of no nodes, and of numbers of nodes that are not there.
	"tree 0 0", "tree 1 0", "tree 2 0", "tree -1 0", "tree 1 ", "tree 2 ", "tree 3 ", "tree 3 0,0", "tree 3 1,2", "tree 4 0", "tree 4 0,2,1", "tree 7 0,0,0,0", "tree 7 0,0,0,0,0,0",
	"tree 8 0,0,0,0,0,0", "tree 8 0,0,0,0,0", "tree 9 0,0,0,0,0,0,0", "tree 3 3", "tree 3 -1", "tree 4 4,0", "tree 4 0,4", "tree 7 7,0,0,0,0", "tree 7 0,0,0,0,-1",
	// Commas too many.
	"tree 4 ,0,2", "tree 4 0,,2", "tree 4 0,2,", "tree 3 ,", "tree 3 ,0", "tree 3 0,", "tree 3, 0", "tree ,3 0", "tree 2 ,", "park ,", "park ,0", "park 0,", "park 0,,0", "park ,,", "park ,0,0", "word 3, 4", "word 3 ,4",
	// Wishes that are none, and too many.
	"park -1", "park 2", "park 0,3", "park 3,0", "park -1,0", "park 0,-1", "park 0,0,4", "park 10", "park 0,1,2,3,4,5,6,9", "park 0,0,0,0,0,0,0,0,0", "park 8,7,6,5,4,3,2,1,0", "park 0,1,2,3,4,5,6,7,8,9",
}

// whatLines do not begin with a command.
var whatLines = []string{
	"", " ", "  ", "\n", "\t", "\x00", "\xff", "walk", "walk ()", "walk 3 4", "none", "wrong", "what", "what ()", "0", "()", "(())", "3 4", "0,2", "-1", ",", "/",
	// Something in front.
	" rank ()", "  rank ()", " rank", " next (())", " arms ", " cuts ()", " word 3 4", " tree 4 0,2", " park 0", "\trank ()", "\nrank ()", "\x00rank ()", "\ufeffrank ()", "xrank ()", "-park 0", "/rank ()", "()rank",
	// Capital letters.
	"Rank ()", "RANK ()", "ranK ()", "Next (())", "NEXT (())", "aRms ()", "ARMS ", "CUTS ()", "cutS ()", "WORD 3 4", "Word 3 4", "Tree 4 0,2", "TREE 4 0,2", "PARK 0", "Park 0", "Rank", "PARK",
	// Parts of commands, and more than commands.
	"r", "ran", "ran ()", "ank ()", "ranks ()", "rankk ()", "rrank ()", "nex (())", "nexts (())", "arm ()", "armss ()", "cut ()", "cutss ()", "wor 3 4", "words 3 4", "tre 4 0,2", "trees 4 0,2", "par 0", "parks 0", "parked 0",
	"rank()", "next(())", "arms()", "cuts()", "word3 4", "tree4 0,2", "park0", "park0,0", "rank,()", "rank: ()", "rank/()", "park,0", "rank() ()", "r ank ()", "pa rk 0",
	// Other blanks than spaces.
	"rank\t()", "rank\n", "rank\n()", "rank\r", "next\t(())", "arms\n", "cuts\v()", "word\t3 4", "tree\t4 0,2", "park\t0", "park\n0", "rank\u00a0()", "park\x000", "rank\x00", "rank\t ()",
}

// textOfNumbers returns numbers in decimal with a comma between two.
func textOfNumbers(row []int) string {
	return strings.ReplaceAll(strings.Trim(fmt.Sprint(row), "[]"), " ", ",")
}

// textOfRows returns rows of numbers with a / between two.
func textOfRows(rows [][]int) string {
	text := ""
	for i, row := range rows {
		if i > 0 {
			text += "/"
		}
		text += textOfNumbers(row)
	}
	return text
}

// rightLines holds the answers to all lines that are right, but for those that
// begin with park.
var rightLines = sync.OnceValue(func() map[string]string {
	answers := map[string]string{}
	for n := range impl.MaxPairs + 1 {
		words := append(wordsByTrying(n), "none")
		for r, s := range words[:len(words)-1] {
			answers["rank "+s] = fmt.Sprint(r)
			answers["next "+s] = words[r+1]
			answers["arms "+s] = textOfRows(armsByDepths(s))
			answers["cuts "+s] = textOfRows(cutPolygon(s, 0))
			answers[fmt.Sprintf("word %d %d", n, r)] = s
		}
	}
	for _, tree := range everyTree() {
		if tree.n > 2 {
			code := textOfNumbers(codeByTaking(tree.n, tree.edges))
			answers[fmt.Sprintf("tree %d %s", tree.n, code)] = textOfRows(tree.edges) + " " + textByCenters(tree.n, tree.edges)
		}
	}
	return answers
})

// parkLine returns the line that asks where the cars of wishes park.
func parkLine(list []int) string {
	return "park " + textOfNumbers(list)
}

// wishesOfLine returns the wishes that a line asks about and true, nil and false
// if there are none. As no wish is above MaxCars, each is one digit.
func wishesOfLine(line string) ([]int, bool) {
	cars := (len(line) - len("park ") + 1) / 2
	if cars < 1 || cars > impl.MaxCars {
		return nil, false
	}
	var list []int
	for car := range cars {
		list = append(list, int(line[len("park ")+2*car])-'0')
	}
	// The line is right only if it is just as it is written by its own digits.
	return list, line == parkLine(list) && slices.Min(list) >= 0 && slices.Max(list) <= cars
}

// deskAnswer returns what the desk should say to a line, by looking it up among
// all lines that are right.
func deskAnswer(line string) string {
	if answer, ok := rightLines()[line]; ok {
		return answer
	}
	if list, ok := wishesOfLine(line); ok {
		return textOfNumbers(placesByFreeOnes(list))
	}
	if slices.Contains(deskCommands, strings.Split(line, " ")[0]) {
		return "wrong"
	}
	return "what"
}

// checkLine checks what the desk says to a line that is alone.
func checkLine(t *testing.T, line string, answer string) {
	t.Helper()
	if got := impl.RunDesk([]string{line}); got != answer+"\n" {
		t.Errorf("RunDesk of %.99q = %.99q, want %.99q", line, got, answer)
	}
}

// checkLines checks what the desk says to lines, as many at once as it may be
// asked.
func checkLines(t *testing.T, lines []string) {
	t.Helper()
	for part := range slices.Chunk(lines, impl.MaxDesk) {
		want := ""
		for _, line := range part {
			want += deskAnswer(line) + "\n"
		}
		if got := impl.RunDesk(part); got != want {
			t.Fatalf("RunDesk(%q) = %q, want %q", part, got, want)
		}
	}
}

// someLines returns lines of all kinds, mixed.
func someLines() []string {
	var right, lines []string
	for _, c := range deskCases {
		right = append(right, c.line)
	}
	for i, line := range wrongLines {
		lines = append(lines, line, right[i%len(right)], whatLines[i%len(whatLines)])
	}
	return lines
}

func TestDeskCases(t *testing.T) {
	for _, c := range deskCases {
		checkLine(t, c.line, c.answer)
		if got := deskAnswer(c.line); got != c.answer {
			t.Errorf("the tests answer %q by %q, want %q", c.line, got, c.answer)
		}
	}
}

func TestWrongLines(t *testing.T) {
	for _, line := range wrongLines {
		checkLine(t, line, "wrong")
	}
	for _, name := range deskCommands {
		for _, text := range noWords {
			checkLine(t, name+" "+text, "wrong")
		}
	}
}

func TestWhatLines(t *testing.T) {
	for _, line := range whatLines {
		checkLine(t, line, "what")
	}
}

// All words, all ranks and all codes are asked about.
func TestAllRightLines(t *testing.T) {
	var lines []string
	for line := range rightLines() {
		lines = append(lines, line)
	}
	slices.Sort(lines)
	if want := 5*len(allWords()) + 3 + 16 + 125 + 1296 + 16807; len(lines) != want {
		t.Errorf("%d lines are right, want %d", len(lines), want)
	}
	checkLines(t, lines)
}

func TestWishesAtTheDesk(t *testing.T) {
	var lines []string
	for _, list := range everyWishes() {
		if len(list) > 0 {
			lines = append(lines, parkLine(list))
		}
	}
	for _, list := range noWishes {
		lines = append(lines, parkLine(list))
	}
	for n := range 5 {
		for _, list := range rowsOfNumbers(n, -2, n+2) {
			lines = append(lines, parkLine(list))
		}
	}
	checkLines(t, lines)
}

func TestRanksThatAreNotThere(t *testing.T) {
	var lines []string
	for n := -3; n <= 2*impl.MaxPairs; n++ {
		for _, r := range []int{math.MinInt, math.MinInt + 1, -5000, -3, -2, -1, 0, 1, 2, 4861, 4862, 4863, 5000, math.MaxInt - 1, math.MaxInt} {
			lines = append(lines, fmt.Sprintf("word %d %d", n, r), fmt.Sprintf("word %d %d", r, n))
		}
		for near := -2; near <= 2 && n >= 0 && n <= impl.MaxPairs; near++ {
			lines = append(lines, fmt.Sprintf("word %d %d", n, catalan[n]+near))
		}
	}
	checkLines(t, lines)
}

func TestCodesOfAllFewNumbers(t *testing.T) {
	var lines []string
	for length := range 4 {
		for _, code := range rowsOfNumbers(length, -1, 6) {
			for n := -1; n <= 6; n++ {
				lines = append(lines, fmt.Sprintf("tree %d %s", n, textOfNumbers(code)))
			}
		}
	}
	for n := -2; n <= 2*impl.MaxNodes; n++ {
		for length := range 2 * impl.MaxNodes {
			for _, node := range []int{math.MinInt, -1, 0, n - 1, n, math.MaxInt} {
				lines = append(lines, fmt.Sprintf("tree %d %s", n, textOfNumbers(slices.Repeat([]int{node}, length))))
			}
		}
	}
	checkLines(t, lines)
}

// changedLines returns a line with one byte more, one less, and another one, at
// each place.
func changedLines(line string) []string {
	var lines []string
	for place := range len(line) + 1 {
		ahead, behind := line[:place], line[place:]
		for _, more := range " \t\n(),/-+.0123456789aAkKsS_\x00\u00a0" {
			lines = append(lines, ahead+string(more)+behind)
			if behind != "" {
				lines = append(lines, ahead+string(more)+behind[1:])
			}
		}
		lines = append(lines, ahead, behind, ahead+"\xff"+behind, ahead+ahead+behind, ahead+behind+behind)
		if behind != "" {
			lines = append(lines, ahead+behind[1:], ahead+strings.ToUpper(behind[:1])+behind[1:])
		}
	}
	return lines
}

func TestLinesThatAreNearlyRight(t *testing.T) {
	for _, c := range deskCases {
		checkLines(t, changedLines(c.line))
	}
	for _, line := range []string{"rank ", "next ()", "arms ", "cuts ()", "word 1 0", "tree 3 0", "park 0", "rank", "park"} {
		for _, changed := range changedLines(line) {
			checkLines(t, changedLines(changed))
		}
	}
}

// Commands take only what is theirs.
func TestCommandsWithWhatOthersTake(t *testing.T) {
	var lines []string
	for _, c := range deskCases {
		_, text, _ := strings.Cut(c.line, " ")
		for _, name := range deskCommands {
			lines = append(lines, name+" "+text, name+text, name+" "+name+" "+text, text+" "+name, c.line+" "+c.line, c.line+"\n"+c.line)
		}
	}
	checkLines(t, lines)
}

func TestDeskLimits(t *testing.T) {
	if impl.MaxDesk != 20 {
		t.Errorf("MaxDesk = %d, want 20", impl.MaxDesk)
	}
	lines := [][]string{{"rank (())()"}, {"wrong"}, {"park"}, {""}, {"next (())"}, {"arms "}}
	answers := []string{"2\n", "what\n", "wrong\n", "what\n", "()()\n", "\n"}
	for i, line := range lines {
		for count := range 50 {
			want := strings.Repeat(answers[i], count)
			if count > 20 {
				want = ""
			}
			if got := impl.RunDesk(slices.Repeat(line, count)); got != want {
				t.Errorf("RunDesk of %d lines %q = %q, want %q", count, line, got, want)
			}
		}
	}
	if got := impl.RunDesk(nil); got != "" {
		t.Errorf("RunDesk(nil) = %q", got)
	}
	for _, count := range []int{impl.MaxDesk + 1, 2 * impl.MaxDesk, 100, 10000} {
		if got := impl.RunDesk(make([]string, count)); got != "" {
			t.Errorf("RunDesk of %d lines = %q", count, got)
		}
	}
}

// Promise 68: each line has an answer.
func TestEachLineHasAnAnswer(t *testing.T) {
	all := someLines()
	for first := range all {
		lines := all[first:min(first+first%impl.MaxDesk+1, len(all))]
		whole := impl.RunDesk(lines)
		if got := strings.Count(whole, "\n"); got != len(lines) {
			t.Fatalf("RunDesk(%q) = %q has %d newlines, want %d", lines, whole, got, len(lines))
		}
		for cut := range len(lines) + 1 {
			if halves := impl.RunDesk(lines[:cut]) + impl.RunDesk(lines[cut:]); halves != whole {
				t.Fatalf("RunDesk(%q) = %q, but cut at %d it is %q", lines, whole, cut, halves)
			}
		}
	}
}

func TestLongLines(t *testing.T) {
	long := 200000
	for _, name := range deskCommands {
		for _, text := range []string{"(", ")", "()", " ", "0", "1", "-", ",", "0,", "0 ", "3 0 ", "x", "\n"} {
			checkLine(t, name+" "+strings.Repeat(text, long), "wrong")
			checkLine(t, strings.Repeat(text, long)+name, "what")
		}
		checkLine(t, name+" "+nested(long), "wrong")
		checkLine(t, strings.Repeat(name, long), "what")
		checkLine(t, strings.Repeat(name+" ", long), "wrong")
	}
	for _, line := range []string{"word %s3 4", "word 3 %s4", "tree %s3 0", "tree 3 %s0", "park %s0", "park 0,%s0"} {
		checkLine(t, fmt.Sprintf(line, strings.Repeat("0", long)), "wrong")
		checkLine(t, fmt.Sprintf(line, strings.Repeat("9", long)), "wrong")
	}
	checkLine(t, "park 0"+strings.Repeat(",0", long), "wrong")
	checkLine(t, "tree 7 0"+strings.Repeat(",0", long), "wrong")
}

// What the desk answers does not depend on what it was asked before, nor on what
// it is asked at the same time.
func TestDeskAtOnce(t *testing.T) {
	lines := someLines()
	rightLines()
	var group sync.WaitGroup
	for range 8 {
		group.Go(func() {
			for range 3 {
				for part := range slices.Chunk(lines, impl.MaxDesk) {
					want := ""
					for _, line := range part {
						want += deskAnswer(line) + "\n"
					}
					if got := impl.RunDesk(part); got != want {
						t.Errorf("RunDesk(%q) = %q, want %q", part, got, want)
					}
				}
			}
		})
	}
	group.Wait()
}

func TestLinesStayAsTheyAre(t *testing.T) {
	all := someLines()
	before := slices.Clone(all)
	for count := range impl.MaxDesk + 5 {
		impl.RunDesk(all[:count])
	}
	if !slices.Equal(all, before) {
		t.Error("the lines are not as before")
	}
}
