package tests

import (
	"math"
	"slices"
	"strings"
	"sync"
	"testing"

	"loop.example/shapesoftrees/impl"
)

// rowCase is a row, its word, how many rows have this word, and how many of its
// numbers fall.
type rowCase struct {
	row   []int
	word  string
	heaps int
	falls int
}

// rowCases are rows whose words and heaps were found by hand.
var rowCases = []rowCase{
	// No numbers and one number.
	{nil, "", 1, 0},
	{[]int{}, "", 1, 0},
	{[]int{0}, "()", 1, 0},
	// Few numbers.
	{[]int{0, 1}, "()()", 1, 0},
	{[]int{1, 0}, "(())", 1, 1},
	{[]int{0, 1, 2}, "()()()", 1, 0},
	{[]int{0, 2, 1}, "()(())", 1, 1},
	{[]int{1, 0, 2}, "(())()", 2, 1},
	{[]int{2, 0, 1}, "(())()", 2, 1},
	{[]int{1, 2, 0}, "(()())", 1, 1},
	{[]int{2, 1, 0}, "((()))", 1, 2},
	{[]int{1, 2, 0, 3}, "(()())()", 3, 1},
	{[]int{3, 1, 0, 2}, "((()))()", 3, 2},
	{[]int{1, 0, 2, 3}, "(())()()", 3, 1},
	{[]int{2, 0, 3, 1}, "(())(())", 3, 2},
	{[]int{0, 3, 1, 2}, "()(())()", 2, 1},
	{[]int{2, 1, 3, 0}, "((())())", 2, 2},
	{[]int{3, 1, 4, 0, 2}, "((())())()", 8, 2},
	{[]int{3, 2, 0, 4, 1}, "((()))(())", 6, 3},
	{[]int{4, 1, 3, 0, 2}, "((())())()", 8, 2},
	// As many numbers as there may be.
	{[]int{0, 1, 2, 3, 4, 5, 6, 7}, "()()()()()()()()", 1, 0},
	{[]int{7, 6, 5, 4, 3, 2, 1, 0}, "(((((((())))))))", 1, 7},
	{[]int{7, 0, 1, 2, 3, 4, 5, 6}, "(())()()()()()()", 7, 1},
	{[]int{0, 7, 6, 5, 4, 3, 2, 1}, "()((((((()))))))", 1, 6},
	{[]int{3, 1, 4, 0, 6, 5, 7, 2}, "((())())((())())", 140, 4},
}

// noRows are numbers that are no rows.
var noRows = [][]int{
	// Numbers twice.
	{0, 0}, {1, 1}, {0, 0, 1}, {0, 1, 0}, {1, 0, 0}, {0, 1, 1}, {0, 2, 2}, {1, 1, 2}, {2, 2, 2}, {0, 1, 2, 2},
	{0, 1, 2, 3, 4, 5, 6, 6}, {0, 0, 2, 3, 4, 5, 6, 7}, {7, 7, 6, 5, 4, 3, 2, 1}, make([]int, impl.MaxRow),
	// Numbers below 0.
	{-1}, {-2}, {0, -1}, {-1, 0}, {-1, 0, 1}, {0, 1, -1}, {-1, -2}, {0, 1, 2, 3, 4, 5, 6, -1}, {-7, 1, 2, 3, 4, 5, 6, 7},
	{math.MinInt}, {math.MinInt, 0}, {0, math.MinInt}, {0, math.MinInt + 1, 1},
	// Numbers past the last.
	{1}, {2}, {0, 2}, {2, 0}, {1, 2}, {2, 1}, {1, 2, 3}, {0, 1, 3}, {3, 0, 1}, {0, 1, 2, 3, 4, 5, 6, 8}, {8, 1, 2, 3, 4, 5, 6, 7},
	{1, 2, 3, 4, 5, 6, 7, 8}, {math.MaxInt}, {0, math.MaxInt}, {math.MaxInt, 1, 0}, {math.MinInt, math.MaxInt},
	// Too many numbers.
	{0, 1, 2, 3, 4, 5, 6, 7, 8}, {8, 7, 6, 5, 4, 3, 2, 1, 0}, {0, 1, 2, 3, 4, 5, 6, 7, 7}, {0, 1, 2, 3, 4, 5, 6, 7, 0},
	{0, 1, 2, 3, 4, 5, 6, 7, -1}, {0, 1, 2, 3, 4, 5, 6, 7, 8, 9}, make([]int, impl.MaxRow+1), make([]int, 1000),
}

// everyRow returns all rows of up to MaxRow numbers.
var everyRow = sync.OnceValue(func() [][]int {
	var rows [][]int
	for n := range impl.MaxRow + 1 {
		rows = append(rows, rowsInAnyOrder(n)...)
	}
	return rows
})

// heapsByWords returns how many rows have each word of up to MaxRow pairs,
// without the help of the program.
var heapsByWords = sync.OnceValue(func() map[string]int {
	heaps := map[string]int{}
	for _, row := range everyRow() {
		heaps[wordByBeginnings(row)]++
	}
	return heaps
})

// wordByBeginnings returns what HeapWord should: the pair of each number ends
// at its own place, and begins ahead of all greater ones just ahead of it.
func wordByBeginnings(row []int) string {
	begun := make([]int, len(row))
	for place, number := range row {
		begin := place
		for begin > 0 && row[begin-1] > number {
			begin--
		}
		begun[begin]++
	}
	word := ""
	for _, count := range begun {
		word += strings.Repeat("(", count) + ")"
	}
	return word
}

// wordsUpTo returns all words of up to so many pairs.
func wordsUpTo(pairs int) []string {
	var words []string
	for n := range pairs + 1 {
		words = append(words, wordsByTrying(n)...)
	}
	return words
}

// placesIn returns the place of each number in a row.
func placesIn(row []int) []int {
	places := make([]int, len(row))
	for place, number := range row {
		places[number] = place
	}
	return places
}

// checkNoRow checks that all functions refuse numbers.
func checkNoRow(t *testing.T, list []int) {
	t.Helper()
	if impl.ValidRow(list) {
		t.Errorf("ValidRow(%v) = true", list)
	}
	if word, falls := impl.HeapWord(list), impl.FallsOf(list); word != "" || falls != -1 {
		t.Errorf("HeapWord(%v) = %q, FallsOf = %d", list, word, falls)
	}
}

// checkHeaps checks that all functions give so many heaps of a word, as far as
// each one counts those of as many pairs.
func checkHeaps(t *testing.T, s string, heaps int) {
	t.Helper()
	if choices, hooks := impl.HeapsOf(s), impl.HeapsByHooks(s); choices != heaps || hooks != heaps {
		t.Errorf("HeapsOf(%q) = %d, HeapsByHooks = %d, want %d", s, choices, hooks, heaps)
	}
	want := heaps
	if len(s) > 2*impl.MaxTried {
		want = -1
	}
	if got := impl.HeapsTried(s); got != want {
		t.Errorf("HeapsTried(%q) = %d, want %d", s, got, want)
	}
}

func TestRowCases(t *testing.T) {
	for _, c := range rowCases {
		if !impl.ValidRow(c.row) {
			t.Errorf("ValidRow(%v) = false", c.row)
		}
		if got := impl.HeapWord(c.row); got != c.word {
			t.Errorf("HeapWord(%v) = %q, want %q", c.row, got, c.word)
		}
		if got := impl.FallsOf(c.row); got != c.falls {
			t.Errorf("FallsOf(%v) = %d, want %d", c.row, got, c.falls)
		}
		checkHeaps(t, c.word, c.heaps)
	}
}

func TestNoRows(t *testing.T) {
	for _, list := range noRows {
		checkNoRow(t, list)
	}
}

func TestHeapLimits(t *testing.T) {
	if impl.MaxRow != 8 || impl.MaxTried != 5 {
		t.Errorf("MaxRow = %d, MaxTried = %d, want 8 and 5", impl.MaxRow, impl.MaxTried)
	}
	for _, text := range []func(int) string{nested, beside} {
		for n := range impl.MaxRow + 1 {
			checkHeaps(t, text(n), 1)
		}
		for n := impl.MaxRow + 1; n <= impl.MaxPairs+2; n++ {
			checkHeaps(t, text(n), -1)
		}
	}
}

func TestHeapsOfNoWord(t *testing.T) {
	for _, s := range noWords {
		checkHeaps(t, s, -1)
	}
	for _, s := range wordsByTrying(impl.MaxPairs) {
		checkHeaps(t, s, -1)
	}
	for length := range 13 {
		for _, text := range bracketTexts(length) {
			if !balanced(text) {
				checkHeaps(t, text, -1)
			}
		}
	}
}

func TestValidRowOfAllFewNumbers(t *testing.T) {
	for n := range 6 {
		for _, list := range rowsOfNumbers(n, -2, n+1) {
			if !hasEachOnce(list) {
				checkNoRow(t, list)
			} else if !impl.ValidRow(list) {
				t.Fatalf("ValidRow(%v) = false", list)
			}
		}
	}
}

func TestRowsWithOneNumberChanged(t *testing.T) {
	for n := 1; n <= impl.MaxRow; n++ {
		inOrder := make([]int, n)
		for place := range inOrder {
			inOrder[place] = place
		}
		for _, row := range [][]int{inOrder, otherWayRound(inOrder)} {
			for place, before := range row {
				for number := -2; number <= n+2; number++ {
					row[place] = number
					if number != before {
						checkNoRow(t, row)
					} else if !impl.ValidRow(row) {
						t.Errorf("ValidRow(%v) = false", row)
					}
				}
				row[place] = before
			}
		}
	}
}

func TestHeapWord(t *testing.T) {
	for _, row := range everyRow() {
		if got, want := impl.HeapWord(row), wordByBeginnings(row); got != want {
			t.Fatalf("HeapWord(%v) = %q, want %q", row, got, want)
		}
	}
}

func TestHeapsOfAllWords(t *testing.T) {
	for _, s := range wordsUpTo(impl.MaxRow) {
		checkHeaps(t, s, heapsByWords()[s])
	}
}

// How many rows have so many falls follows from those of one number less: the
// greatest number makes one fall more but at a fall and at the end.
func TestFallsOfAllRows(t *testing.T) {
	want := []int{1}
	for n := 1; n <= impl.MaxRow; n++ {
		found := make([]int, n)
		for _, row := range rowsInAnyOrder(n) {
			falls := impl.FallsOf(row)
			if falls < 0 || falls >= n {
				t.Fatalf("FallsOf(%v) = %d", row, falls)
			}
			found[falls]++
		}
		if n > 1 {
			longer := make([]int, n)
			for falls, count := range want {
				longer[falls] += (falls + 1) * count
				longer[falls+1] += (n - 1 - falls) * count
			}
			want = longer
		}
		if !slices.Equal(found, want) {
			t.Errorf("rows of %d numbers have the falls %v, want %v", n, found, want)
		}
	}
}

// Promise 18: rows without a bad three come from a stack. A row of a word has
// up to MaxPairs numbers, and ValidRow says of those of up to MaxRow whether
// each number is there once.
func TestRowsWithoutABadThreeComeFromAStack(t *testing.T) {
	rows := slices.Concat(everyRow(), noRows)
	for n := range 6 {
		rows = append(rows, rowsOfNumbers(n, -1, n)...)
	}
	for _, row := range rows {
		want := impl.ValidRow(row) && !hasBadThree(row)
		if len(row) > impl.MaxRow {
			want = len(row) <= impl.MaxPairs && hasEachOnce(row) && !hasBadThree(row)
		}
		word, ok := impl.WordOfStack(row)
		if ok != want {
			t.Fatalf("WordOfStack(%v) = %q, %v, want %v", row, word, ok, want)
		}
		if ok && !slices.Equal(impl.StackRow(word), row) {
			t.Fatalf("WordOfStack(%v) = %q, whose StackRow is %v", row, word, impl.StackRow(word))
		}
	}
}

// Promise 49: rows may be turned.
func TestRowsMayBeTurned(t *testing.T) {
	for _, row := range everyRow() {
		if turned := otherWayRound(row); !impl.ValidRow(row) || !impl.ValidRow(turned) {
			t.Fatalf("ValidRow(%v) = %v, the other way round %v", row, impl.ValidRow(row), impl.ValidRow(turned))
		}
	}
	for _, list := range noRows {
		checkNoRow(t, otherWayRound(list))
	}
}

// Promise 50: least numbers stand on top.
func TestLeastNumbersStandOnTop(t *testing.T) {
	for _, row := range everyRow() {
		word := impl.HeapWord(row)
		if !impl.ValidWord(word) || len(word) != 2*len(row) {
			t.Fatalf("HeapWord(%v) = %q", row, word)
		}
		places := placesIn(impl.BetweenOf(word))
		for node, arms := range impl.BinOf(word) {
			for _, next := range arms {
				if next != -1 && row[places[node]] >= row[places[next]] {
					t.Fatalf("HeapWord(%v) = %q, but node %d has %d, and node %d on its arm has %d", row, word, node, row[places[node]], next, row[places[next]])
				}
			}
		}
	}
}

// Promise 51: heaps by choices are heaps by hooks.
func TestHeapsByChoicesAreHeapsByHooks(t *testing.T) {
	for _, s := range wordsUpTo(impl.MaxRow) {
		choices, hooks := impl.HeapsOf(s), impl.HeapsByHooks(s)
		if choices != hooks {
			t.Errorf("HeapsOf(%q) = %d, HeapsByHooks = %d", s, choices, hooks)
		}
		if len(s) > 2*impl.MaxTried {
			continue
		}
		if tried := impl.HeapsTried(s); tried != choices {
			t.Errorf("HeapsOf(%q) = %d, but %d are tried", s, choices, tried)
		}
	}
}

// Promise 52: straight words have one heap.
func TestStraightWordsHaveOneHeap(t *testing.T) {
	for _, s := range wordsUpTo(impl.MaxRow) {
		if got, most := impl.HeapsByHooks(s), factorial(len(s)/2); got < 1 || got > most {
			t.Errorf("HeapsByHooks(%q) = %d, want 1 to %d", s, got, most)
		}
	}
	for n := range impl.MaxRow + 1 {
		if in, by := impl.HeapsByHooks(nested(n)), impl.HeapsByHooks(beside(n)); in != 1 || by != 1 {
			t.Errorf("HeapsByHooks(%q) = %d, HeapsByHooks(%q) = %d", nested(n), in, beside(n), by)
		}
	}
}

// Promise 53: tried heaps are heaps by choices.
func TestTriedHeapsAreHeapsByChoices(t *testing.T) {
	for _, s := range wordsUpTo(impl.MaxTried) {
		if tried, choices := impl.HeapsTried(s), impl.HeapsOf(s); tried != choices || tried != heapsByWords()[s] {
			t.Errorf("HeapsTried(%q) = %d, HeapsOf = %d, want %d", s, tried, choices, heapsByWords()[s])
		}
	}
}

// Promise 54: falls and rises are all steps.
func TestFallsAndRisesAreAllSteps(t *testing.T) {
	for _, row := range everyRow() {
		steps := max(len(row)-1, 0)
		if falls, rises := impl.FallsOf(row), impl.FallsOf(otherWayRound(row)); falls+rises != steps || falls < 0 || rises < 0 {
			t.Fatalf("FallsOf(%v) = %d, the other way round %d", row, falls, rises)
		}
	}
}

// Promise 71: all rows have a word. Words of more than MaxList pairs are not
// listed, but they have heaps, too.
func TestAllRowsHaveAWord(t *testing.T) {
	for n := range impl.MaxRow + 1 {
		words := wordsByTrying(n)
		if n <= impl.MaxList {
			words = impl.WordsOf(n)
		}
		heaps := 0
		for _, s := range words {
			heaps += impl.HeapsOf(s)
		}
		if want := factorial(n); heaps != want {
			t.Errorf("words of %d pairs have %d heaps, want %d", n, heaps, want)
		}
	}
}

// Promise 80: rows turned have as many heaps.
func TestRowsTurnedHaveAsManyHeaps(t *testing.T) {
	for _, row := range everyRow() {
		word, turned := impl.HeapWord(row), impl.HeapWord(otherWayRound(row))
		if a, b := impl.HeapsOf(word), impl.HeapsOf(turned); a != b || a < 1 {
			t.Fatalf("HeapsOf HeapWord(%v) = %d, the other way round %d", row, a, b)
		}
	}
}

// Promise 88: mirrored nodes keep their parents. Nodes without a parent have
// none when they are mirrored, either.
func TestMirroredNodesKeepTheirParents(t *testing.T) {
	for _, s := range allWords() {
		last := len(s)/2 - 1
		places := placesIn(impl.StackRow(s))
		mirrored := impl.ParentsOf(impl.MirrorOf(s))
		if len(mirrored) != len(places) {
			t.Fatalf("MirrorOf(%q) has %d nodes", s, len(mirrored))
		}
		for node, parent := range impl.ParentsOf(s) {
			want := -1
			if parent != -1 {
				want = last - places[parent]
			}
			if got := mirrored[last-places[node]]; got != want {
				t.Fatalf("MirrorOf(%q) has node %d in node %d, want %d", s, last-places[node], got, want)
			}
		}
	}
}

func TestRowsStayAsTheyAre(t *testing.T) {
	all := []int{3, 1, 4, 0, 6, 5, 7, 2, 8, 8}
	before := slices.Clone(all)
	for length := range len(all) + 1 {
		list := all[:length]
		impl.ValidRow(list)
		impl.HeapWord(list)
		impl.FallsOf(list)
	}
	if !slices.Equal(all, before) {
		t.Errorf("numbers %v have become %v", before, all)
	}
}
