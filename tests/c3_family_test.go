package tests

import (
	"fmt"
	"math"
	"slices"
	"testing"

	"loop.example/shapesoftrees/impl"
)

// numbersOutOfRange are numbers that no row of this chapter has.
var numbersOutOfRange = []int{-2, -3, impl.MaxPairs, impl.MaxPairs + 1, 100, math.MinInt, math.MaxInt}

// armsByDepths returns what BinOf should: the left one is the next node if it
// is deeper, and the right one is the next node that is not, if it is as deep.
func armsByDepths(s string) [][]int {
	depths := depthsByCounting(s)
	var rows [][]int
	for node, depth := range depths {
		left, right := -1, -1
		if node+1 < len(depths) && depths[node+1] > depth {
			left = node + 1
		}
		behind := node + 1
		for behind < len(depths) && depths[behind] > depth {
			behind++
		}
		if behind < len(depths) && depths[behind] == depth {
			right = behind
		}
		rows = append(rows, []int{left, right})
	}
	return rows
}

// betweenArms returns the nodes from one on in the order of BetweenOf.
func betweenArms(rows [][]int, node int) []int {
	if node < 0 || node >= len(rows) {
		return nil
	}
	row := append(betweenArms(rows, rows[node][0]), node)
	return append(row, betweenArms(rows, rows[node][1])...)
}

// closedByDepths returns the nodes in the order of their closing brackets,
// each of which closes the last open node as deep as what is ahead tells.
func closedByDepths(s string) []int {
	depths := depthsByCounting(s)
	var row []int
	begun, depth := 0, 0
	for i := range len(s) {
		if s[i] == '(' {
			begun++
			depth++
			continue
		}
		depth--
		node := begun - 1
		for depths[node] != depth {
			node--
		}
		row = append(row, node)
	}
	return row
}

// cutPolygon returns the triangles of a word by cutting its text, in a polygon
// whose first corner is given.
func cutPolygon(s string, first int) [][]int {
	if s == "" {
		return nil
	}
	within, behind := cutWord(s)
	middle := first + len(within)/2 + 1
	rows := [][]int{{first, middle, first + len(s)/2 + 1}}
	rows = append(rows, cutPolygon(within, first)...)
	return append(rows, cutPolygon(behind, middle)...)
}

// sameRows reports whether rows are the same ones.
func sameRows(a [][]int, b [][]int) bool {
	return slices.EqualFunc(a, b, slices.Equal)
}

// hasBadThree reports whether of some three numbers of a row the first one is
// the greatest, and the second one the least.
func hasBadThree(row []int) bool {
	for i := range row {
		for j := range i {
			for k := range j {
				if row[k] > row[i] && row[i] > row[j] {
					return true
				}
			}
		}
	}
	return false
}

// hasEachOnce reports whether a row has each number from 0 up to less than how
// many there are, once.
func hasEachOnce(row []int) bool {
	sorted := slices.Sorted(slices.Values(row))
	for i, number := range sorted {
		if number != i {
			return false
		}
	}
	return true
}

// rowsInAnyOrder returns all orders of the numbers from 0 up to less than n.
func rowsInAnyOrder(n int) [][]int {
	rows := [][]int{{}}
	for number := range n {
		var longer [][]int
		for _, row := range rows {
			for place := range number + 1 {
				longer = append(longer, slices.Insert(slices.Clone(row), place, number))
			}
		}
		rows = longer
	}
	return rows
}

func TestBinOf(t *testing.T) {
	cases := map[string][][]int{
		"":         {},
		"()":       {{-1, -1}},
		"(())":     {{1, -1}, {-1, -1}},
		"()()":     {{-1, 1}, {-1, -1}},
		"((()))":   {{1, -1}, {2, -1}, {-1, -1}},
		"()()()":   {{-1, 1}, {-1, 2}, {-1, -1}},
		"(())()":   {{1, 2}, {-1, -1}, {-1, -1}},
		"(()())()": {{1, 3}, {-1, 2}, {-1, -1}, {-1, -1}},
	}
	for s, want := range cases {
		if got := impl.BinOf(s); !sameRows(got, want) {
			t.Errorf("BinOf(%q) = %v, want %v", s, got, want)
		}
	}
	for _, s := range allWords() {
		if got := impl.BinOf(s); !sameRows(got, armsByDepths(s)) {
			t.Fatalf("BinOf(%q) = %v, want %v", s, got, armsByDepths(s))
		}
	}
	for _, s := range noWords {
		if got := impl.BinOf(s); len(got) != 0 {
			t.Errorf("BinOf(%q) = %v", s, got)
		}
	}
}

func TestNodesWithOneArmOnly(t *testing.T) {
	for n := 1; n <= impl.MaxPairs; n++ {
		left, right := impl.BinOf(nested(n)), impl.BinOf(beside(n))
		for node := range n {
			next := node + 1
			if next == n {
				next = -1
			}
			if !slices.Equal(left[node], []int{next, -1}) {
				t.Errorf("BinOf(%q)[%d] = %v", nested(n), node, left[node])
			}
			if !slices.Equal(right[node], []int{-1, next}) {
				t.Errorf("BinOf(%q)[%d] = %v", beside(n), node, right[node])
			}
		}
	}
}

// Promise 14: words are two-armed trees.
func TestWordsAreTwoArmedTrees(t *testing.T) {
	for _, s := range allWords() {
		rows := impl.BinOf(s)
		if got, ok := impl.WordOfBin(rows); !ok || got != s {
			t.Fatalf("WordOfBin of BinOf(%q) = %q, %v", s, got, ok)
		}
		if len(rows) != len(s)/2 {
			t.Fatalf("BinOf(%q) has %d rows", s, len(rows))
		}
		arms := map[int]int{}
		for _, row := range rows {
			if len(row) != 2 {
				t.Fatalf("BinOf(%q) = %v", s, rows)
			}
			arms[row[0]]++
			arms[row[1]]++
		}
		for node := range rows {
			want := 1
			if node == 0 {
				want = 0
			}
			if arms[node] != want {
				t.Fatalf("BinOf(%q) = %v, with the node %d on %d arms", s, rows, node, arms[node])
			}
		}
	}
}

// Promise 15: two-armed trees are words, and other rows are none.
func TestTwoArmedTreesAreWords(t *testing.T) {
	words := wordsByArms()
	for n, least := range []int{-2, -2, -2, -2, -1} {
		greatest := n
		if n == 4 {
			greatest = n - 1
		}
		found := 0
		for _, numbers := range rowsOfNumbers(2*n, least, greatest) {
			rows := slices.Collect(slices.Chunk(numbers, 2))
			if checkWordOfBin(t, words, rows) {
				found++
			}
		}
		if found != catalan[n] {
			t.Errorf("%d rows of %d nodes are two-armed trees, want %d", found, n, catalan[n])
		}
	}
}

// wordsByArms returns all words by the texts of their two-armed trees.
func wordsByArms() map[string]string {
	words := map[string]string{}
	for _, s := range allWords() {
		words[fmt.Sprint(armsByDepths(s))] = s
	}
	return words
}

// checkWordOfBin checks WordOfBin of rows against the words by their arms, and
// reports whether there is a word.
func checkWordOfBin(t *testing.T, words map[string]string, rows [][]int) bool {
	t.Helper()
	want, is := words[fmt.Sprint(rows)]
	got, ok := impl.WordOfBin(rows)
	if got != want || ok != is {
		t.Fatalf("WordOfBin(%v) = %q, %v, want %q, %v", rows, got, ok, want, is)
	}
	if ok && !sameRows(impl.BinOf(got), rows) {
		t.Fatalf("WordOfBin(%v) = %q, whose BinOf is %v", rows, got, impl.BinOf(got))
	}
	return ok
}

// A two-armed tree with one arm changed is a word only if it is in the table.
func TestWordOfBinWithOneArmChanged(t *testing.T) {
	words := wordsByArms()
	for _, s := range append(wordsByTrying(6), wordsByTrying(impl.MaxPairs)...) {
		rows := armsByDepths(s)
		for _, row := range rows {
			for arm, before := range row {
				for _, number := range append([]int{-1, 0, 1, len(rows) - 1, before + 1}, numbersOutOfRange...) {
					row[arm] = number
					checkWordOfBin(t, words, rows)
				}
				row[arm] = before
			}
		}
	}
}

func TestWordOfBinOfNoTree(t *testing.T) {
	end := []int{-1, -1}
	cases := [][][]int{
		{nil}, {{}}, {{-1}}, {{-1, -1, -1}}, {{1, -1}, nil}, {{1, -1}, {-1}}, {{1, -1}, {-1, -1, -1}},
		{{1, 2}, end, {-1}}, {{-1, 1, 0}, end}, {end, {-1}},
		{{0, -1}}, {{-1, 0}}, {{0, 0}}, {{1, -1}}, {{-1, 1}},
		{{1, 1}, end}, {{1, 2}, {2, -1}, end}, {{1, 2}, {-1, 2}, end},
		{end, end}, {{1, -1}, end, end}, {{-1, 2}, end, end},
		{{1, -1}, {0, -1}}, {{1, -1}, {-1, 1}}, {{-1, 1}, {-1, 0}}, {end, {2, -1}, {1, -1}},
		{{2, 1}, end, end}, {{2, -1}, end, {1, -1}}, {{1, 2}, {3, -1}, end, end}, {{1, -1}, {-1, 3}, end, end},
	}
	for _, rows := range cases {
		if got, ok := impl.WordOfBin(rows); ok || got != "" {
			t.Errorf("WordOfBin(%v) = %q, %v", rows, got, ok)
		}
	}
	for _, wrong := range numbersOutOfRange {
		for _, rows := range [][][]int{{{wrong, -1}}, {{-1, wrong}}, {{1, wrong}, end}, {{1, -1}, {wrong, -1}}} {
			if got, ok := impl.WordOfBin(rows); ok || got != "" {
				t.Errorf("WordOfBin(%v) = %q, %v", rows, got, ok)
			}
		}
	}
}

func TestWordOfBinLimits(t *testing.T) {
	for _, rows := range [][][]int{nil, {}} {
		if got, ok := impl.WordOfBin(rows); !ok || got != "" {
			t.Errorf("WordOfBin(%v) = %q, %v", rows, got, ok)
		}
	}
	for _, n := range []int{1, impl.MaxPairs} {
		for _, s := range []string{nested(n), beside(n)} {
			if got, ok := impl.WordOfBin(armsByDepths(s)); !ok || got != s {
				t.Errorf("WordOfBin of the arms of %q = %q, %v", s, got, ok)
			}
		}
	}
	for _, n := range []int{impl.MaxPairs + 1, impl.MaxPairs + 2, 1000} {
		for _, s := range []string{nested(n), beside(n)} {
			if got, ok := impl.WordOfBin(armsByDepths(s)); ok || got != "" {
				t.Errorf("WordOfBin of %d nodes = %q, %v", n, got, ok)
			}
		}
		if got, ok := impl.WordOfBin(make([][]int, n)); ok || got != "" {
			t.Errorf("WordOfBin of %d empty rows = %q, %v", n, got, ok)
		}
	}
}

// Promise 16: between the arms is as closed.
func TestBetweenTheArmsIsAsClosed(t *testing.T) {
	for _, s := range allWords() {
		if between, closed := impl.BetweenOf(s), impl.StackRow(s); !slices.Equal(between, closed) {
			t.Fatalf("BetweenOf(%q) = %v, StackRow = %v", s, between, closed)
		}
	}
}

func TestBetweenOfAndStackRow(t *testing.T) {
	cases := map[string][]int{
		"":                    {},
		"()":                  {0},
		"(())":                {1, 0},
		"()()":                {0, 1},
		"(()())()":            {1, 2, 0, 3},
		"()((())())":          {0, 3, 2, 4, 1},
		nested(impl.MaxPairs): {8, 7, 6, 5, 4, 3, 2, 1, 0},
		beside(impl.MaxPairs): {0, 1, 2, 3, 4, 5, 6, 7, 8},
	}
	for s, want := range cases {
		if got := impl.BetweenOf(s); !slices.Equal(got, want) {
			t.Errorf("BetweenOf(%q) = %v, want %v", s, got, want)
		}
		if got := impl.StackRow(s); !slices.Equal(got, want) {
			t.Errorf("StackRow(%q) = %v, want %v", s, got, want)
		}
	}
	for _, s := range allWords() {
		if got := impl.BetweenOf(s); !slices.Equal(got, betweenArms(armsByDepths(s), 0)) {
			t.Fatalf("BetweenOf(%q) = %v", s, got)
		}
		if got := impl.StackRow(s); !slices.Equal(got, closedByDepths(s)) {
			t.Fatalf("StackRow(%q) = %v", s, got)
		}
	}
	for _, s := range noWords {
		if got := impl.BetweenOf(s); len(got) != 0 {
			t.Errorf("BetweenOf(%q) = %v", s, got)
		}
		if got := impl.StackRow(s); len(got) != 0 {
			t.Errorf("StackRow(%q) = %v", s, got)
		}
	}
}

// Promise 17: a stack gives no bad three.
func TestAStackGivesNoBadThree(t *testing.T) {
	for _, s := range allWords() {
		row := impl.StackRow(s)
		if got, ok := impl.WordOfStack(row); !ok || got != s {
			t.Fatalf("WordOfStack of StackRow(%q) = %q, %v", s, got, ok)
		}
		if len(row) != len(s)/2 || !hasEachOnce(row) || hasBadThree(row) {
			t.Fatalf("StackRow(%q) = %v", s, row)
		}
	}
}

// Promise 18: rows without a bad three come from a stack, and no other row does.
func TestOnlyRowsWithoutABadThreeComeFromAStack(t *testing.T) {
	for n := range impl.MaxPairs + 1 {
		found := 0
		for _, row := range rowsInAnyOrder(n) {
			if checkWordOfStack(t, row) {
				found++
			}
		}
		if found != catalan[n] {
			t.Errorf("%d rows of %d numbers come from a stack, want %d", found, n, catalan[n])
		}
	}
	for n := range 6 {
		for _, row := range rowsOfNumbers(n, -2, n+1) {
			checkWordOfStack(t, row)
		}
	}
}

// checkWordOfStack checks WordOfStack of a row, and reports whether there is a
// word.
func checkWordOfStack(t *testing.T, row []int) bool {
	t.Helper()
	want := len(row) <= impl.MaxPairs && hasEachOnce(row) && !hasBadThree(row)
	got, ok := impl.WordOfStack(row)
	if ok != want || !ok && got != "" {
		t.Fatalf("WordOfStack(%v) = %q, %v", row, got, ok)
	}
	if ok && !slices.Equal(impl.StackRow(got), row) {
		t.Fatalf("WordOfStack(%v) = %q, whose StackRow is %v", row, got, impl.StackRow(got))
	}
	return ok
}

func TestWordOfStack(t *testing.T) {
	cases := []struct {
		row  []int
		want string
	}{
		{nil, ""}, {[]int{}, ""}, {[]int{0}, "()"}, {[]int{1, 0}, "(())"}, {[]int{0, 1}, "()()"},
		{[]int{1, 0, 2}, "(())()"}, {[]int{1, 2, 0}, "(()())"}, {[]int{1, 2, 0, 3}, "(()())()"},
		{[]int{8, 7, 6, 5, 4, 3, 2, 1, 0}, nested(9)}, {[]int{0, 1, 2, 3, 4, 5, 6, 7, 8}, beside(9)},
	}
	for _, c := range cases {
		if got, ok := impl.WordOfStack(c.row); !ok || got != c.want {
			t.Errorf("WordOfStack(%v) = %q, %v, want %q", c.row, got, ok, c.want)
		}
	}
	for _, row := range [][]int{
		{2, 0, 1}, {3, 0, 1, 2}, {0, 3, 1, 2}, {2, 3, 0, 1}, {8, 0, 1, 2, 3, 4, 5, 6, 7}, // bad threes
		{0, 0}, {1, 1}, {0, 1, 1}, {1, 0, 0}, {0, 1, 0}, {2, 1, 1}, // a number twice
		{1}, {-1}, {0, 2}, {1, 2}, {0, -1}, {-1, 0}, {1, -1}, {2, 0}, {0, 1, 3}, // one out of range
		{9, 8, 7, 6, 5, 4, 3, 2, 1, 0}, {0, 1, 2, 3, 4, 5, 6, 7, 8, 9}, make([]int, 10), make([]int, 1000), // too many
	} {
		if got, ok := impl.WordOfStack(row); ok || got != "" {
			t.Errorf("WordOfStack(%v) = %q, %v", row, got, ok)
		}
	}
	for _, wrong := range numbersOutOfRange {
		for _, row := range [][]int{{wrong}, {0, wrong}, {wrong, 0}, {1, wrong, 0}} {
			if got, ok := impl.WordOfStack(row); ok || got != "" {
				t.Errorf("WordOfStack(%v) = %q, %v", row, got, ok)
			}
		}
	}
}

// Promise 19: polygons are cut whole. Of no pairs there is a polygon of two
// corners, which no triangle covers, so its sides are asked for from one pair.
func TestPolygonsAreCutWhole(t *testing.T) {
	for _, s := range allWords() {
		triangles := impl.TrianglesOf(s)
		n := len(s) / 2
		if len(triangles) != n {
			t.Fatalf("TrianglesOf(%q) has %d triangles", s, len(triangles))
		}
		lines := map[[2]int]int{}
		for _, c := range triangles {
			if len(c) != 3 || c[0] < 0 || c[0] >= c[1] || c[1] >= c[2] || c[2] > n+1 {
				t.Fatalf("TrianglesOf(%q) = %v", s, triangles)
			}
			lines[[2]int{c[0], c[1]}]++
			lines[[2]int{c[1], c[2]}]++
			lines[[2]int{c[0], c[2]}]++
		}
		if n > 0 && len(lines) != 2*n+1 {
			t.Fatalf("TrianglesOf(%q) = %v, with %d lines", s, triangles, len(lines))
		}
		for line, count := range lines {
			isSide := line[1] == line[0]+1 || line == [2]int{0, n + 1}
			if isSide && count != 1 || !isSide && count != 2 {
				t.Fatalf("TrianglesOf(%q) = %v, with the line %v in %d", s, triangles, line, count)
			}
		}
	}
}

func TestTrianglesOf(t *testing.T) {
	cases := map[string][][]int{
		"":         {},
		"()":       {{0, 1, 2}},
		"(())":     {{0, 2, 3}, {0, 1, 2}},
		"()()":     {{0, 1, 3}, {1, 2, 3}},
		"(())()":   {{0, 2, 4}, {0, 1, 2}, {2, 3, 4}},
		"()(())":   {{0, 1, 4}, {1, 3, 4}, {1, 2, 3}},
		"(()())()": {{0, 3, 5}, {0, 1, 3}, {1, 2, 3}, {3, 4, 5}},
	}
	for s, want := range cases {
		if got := impl.TrianglesOf(s); !sameRows(got, want) {
			t.Errorf("TrianglesOf(%q) = %v, want %v", s, got, want)
		}
	}
	for _, s := range allWords() {
		if got := impl.TrianglesOf(s); !sameRows(got, cutPolygon(s, 0)) {
			t.Fatalf("TrianglesOf(%q) = %v, want %v", s, got, cutPolygon(s, 0))
		}
	}
	for n := 1; n <= impl.MaxPairs; n++ {
		inside, flat := impl.TrianglesOf(nested(n)), impl.TrianglesOf(beside(n))
		for i := range n {
			if !slices.Equal(inside[i], []int{0, n - i, n - i + 1}) {
				t.Errorf("TrianglesOf(%q) = %v", nested(n), inside)
			}
			if !slices.Equal(flat[i], []int{i, i + 1, n + 1}) {
				t.Errorf("TrianglesOf(%q) = %v", beside(n), flat)
			}
		}
	}
	for _, s := range noWords {
		if got := impl.TrianglesOf(s); len(got) != 0 {
			t.Errorf("TrianglesOf(%q) = %v", s, got)
		}
	}
}

func TestFamilyResultsAreNew(t *testing.T) {
	s := "(()())()"
	for _, of := range []func(string) [][]int{impl.BinOf, impl.TrianglesOf} {
		want, first := of(s), of(s)
		for i := range first {
			// A row with capacity to spare must not reach into the next one.
			_ = append(first[i], 100, 100, 100)
		}
		if !sameRows(first, want) {
			t.Errorf("rows of %q are %v after each got more numbers, want %v", s, first, want)
		}
		for _, row := range first {
			clear(row)
		}
		if again := of(s); !sameRows(again, want) {
			t.Errorf("rows of %q are %v after an earlier result was changed", s, again)
		}
	}
	clear(impl.BetweenOf(s))
	clear(impl.StackRow(s))
	if between, closed := impl.BetweenOf(s), impl.StackRow(s); !slices.Equal(between, []int{1, 2, 0, 3}) || !slices.Equal(closed, between) {
		t.Errorf("BetweenOf and StackRow of %q are %v and %v after earlier results were changed", s, between, closed)
	}
}

func TestFamilyArgumentsStayAsTheyAre(t *testing.T) {
	for _, rows := range [][][]int{{{1, 2}, {-1, -1}, {-1, -1}}, {{1, 1}, {5, 0}}} {
		before := fmt.Sprint(rows)
		impl.WordOfBin(rows)
		if after := fmt.Sprint(rows); after != before {
			t.Errorf("WordOfBin changed %s to %s", before, after)
		}
	}
	for _, row := range [][]int{{1, 2, 0, 3}, {2, 0, 1}, {7, 0}} {
		before := slices.Clone(row)
		impl.WordOfStack(row)
		if !slices.Equal(row, before) {
			t.Errorf("WordOfStack changed %v to %v", before, row)
		}
	}
}
