package tests

import (
	"fmt"
	"math"
	"slices"
	"strings"
	"sync"
	"testing"

	"loop.example/shapesoftrees/impl"
)

// turnsByParts returns what TurnsOf should: the turns at the beginning of a
// word, those of what is in its first pair, and those of what is behind it.
func turnsByParts(s string) []string {
	if s == "" {
		return nil
	}
	var words []string
	within, behind := cutWord(s)
	if within != "" {
		a, b := cutWord(within)
		words = append(words, "("+a+")("+b+")"+behind)
	}
	if behind != "" {
		b, c := cutWord(behind)
		words = append(words, "(("+within+")"+b+")"+c)
	}
	for _, turned := range turnsByParts(within) {
		words = append(words, "("+turned+")"+behind)
	}
	for _, turned := range turnsByParts(behind) {
		words = append(words, "("+within+")"+turned)
	}
	slices.Sort(words)
	return words
}

// fewestTurns returns how many turns lead from each of the words of n pairs to
// each other one, found by way of each third one.
func fewestTurns(n int) [][]int {
	words := wordsByTrying(n)
	fewest := make([][]int, len(words))
	for i, s := range words {
		fewest[i] = slices.Repeat([]int{1000}, len(words))
		fewest[i][i] = 0
		for _, turned := range turnsByParts(s) {
			fewest[i][slices.Index(words, turned)] = 1
		}
	}
	for by := range words {
		for i := range words {
			for j := range words {
				fewest[i][j] = min(fewest[i][j], fewest[i][by]+fewest[by][j])
			}
		}
	}
	return fewest
}

// turnsBetweenAll returns TurnsBetween all two words of as many pairs, up to
// MaxList; they are asked for once, as several tests look at all of them.
var turnsBetweenAll = sync.OnceValue(func() [][][]int {
	var all [][][]int
	for n := range impl.MaxList + 1 {
		var rows [][]int
		for _, a := range wordsByTrying(n) {
			var row []int
			for _, b := range wordsByTrying(n) {
				row = append(row, impl.TurnsBetween(a, b))
			}
			rows = append(rows, row)
		}
		all = append(all, rows)
	}
	return all
})

func TestTurnsOf(t *testing.T) {
	cases := map[string][]string{
		"":         {},
		"()":       {},
		"(())":     {"()()"},
		"()()":     {"(())"},
		"((()))":   {"(()())", "(())()"},
		"(()())":   {"((()))", "()(())"},
		"(())()":   {"((()))", "()()()"},
		"()(())":   {"(()())", "()()()"},
		"()()()":   {"(())()", "()(())"},
		"(()())()": {"((()()))", "((()))()", "()(())()"},
	}
	for s, want := range cases {
		if got := impl.TurnsOf(s); !slices.Equal(got, want) {
			t.Errorf("TurnsOf(%q) = %q, want %q", s, got, want)
		}
	}
	for _, s := range allWords() {
		if got := impl.TurnsOf(s); !slices.Equal(got, turnsByParts(s)) {
			t.Fatalf("TurnsOf(%q) = %q, want %q", s, got, turnsByParts(s))
		}
	}
	for _, s := range noWords {
		if got := impl.TurnsOf(s); len(got) != 0 {
			t.Errorf("TurnsOf(%q) = %q", s, got)
		}
	}
}

func TestTurnsOfPairsInEachOtherAndBeside(t *testing.T) {
	for n := 2; n <= impl.MaxPairs; n++ {
		var ofNested, ofBeside []string
		for at := range n - 1 {
			outer := strings.Repeat("(", at)
			ofNested = append(ofNested, outer+nested(n-at-1)+"()"+strings.Repeat(")", at))
			ofBeside = append(ofBeside, beside(at)+"(())"+beside(n-at-2))
		}
		slices.Sort(ofNested)
		slices.Sort(ofBeside)
		if got := impl.TurnsOf(nested(n)); !slices.Equal(got, ofNested) {
			t.Errorf("TurnsOf(%q) = %q, want %q", nested(n), got, ofNested)
		}
		if got := impl.TurnsOf(beside(n)); !slices.Equal(got, ofBeside) {
			t.Errorf("TurnsOf(%q) = %q, want %q", beside(n), got, ofBeside)
		}
	}
}

// Promise 20: each node but one turns. Of no pairs there is no turn, either.
func TestEachNodeButOneTurns(t *testing.T) {
	for _, s := range allWords() {
		turns := impl.TurnsOf(s)
		if len(turns) != max(len(s)/2-1, 0) {
			t.Fatalf("TurnsOf(%q) = %q", s, turns)
		}
		for i, turned := range turns {
			if !impl.ValidWord(turned) || len(turned) != len(s) {
				t.Fatalf("TurnsOf(%q) has %q, which is no word of as many pairs", s, turned)
			}
			if i > 0 && turns[i-1] >= turned {
				t.Fatalf("TurnsOf(%q) has %q behind %q", s, turned, turns[i-1])
			}
			if back := impl.TurnsOf(turned); !slices.Contains(back, s) {
				t.Fatalf("TurnsOf(%q) has %q, but TurnsOf this is %q", s, turned, back)
			}
		}
	}
}

// Promise 70: a turn moves one cut.
func TestATurnMovesOneCut(t *testing.T) {
	for _, s := range allWords() {
		triangles := map[string]bool{}
		for _, corners := range impl.TrianglesOf(s) {
			triangles[fmt.Sprint(corners)] = true
		}
		for _, turned := range impl.TurnsOf(s) {
			shared := 0
			for _, corners := range impl.TrianglesOf(turned) {
				if triangles[fmt.Sprint(corners)] {
					shared++
				}
			}
			if shared != len(triangles)-2 {
				t.Fatalf("TrianglesOf %q and %q, which is a turn away, share %d", s, turned, shared)
			}
		}
	}
}

func TestTurnsBetween(t *testing.T) {
	cases := []struct {
		a, b string
		want int
	}{
		{"", "", 0}, {"()", "()", 0}, {"(())", "(())", 0}, {"(())", "()()", 1},
		{"((()))", "(()())", 1}, {"((()))", "()(())", 2}, {"((()))", "()()()", 2}, {"(()())", "()()()", 2},
		{nested(impl.MaxList), beside(impl.MaxList), 5}, {nested(impl.MaxList), nested(impl.MaxList), 0},
		{beside(impl.MaxList), beside(impl.MaxList), 0},
	}
	for _, c := range cases {
		if got := impl.TurnsBetween(c.a, c.b); got != c.want {
			t.Errorf("TurnsBetween(%q, %q) = %d, want %d", c.a, c.b, got, c.want)
		}
	}
	for n, rows := range turnsBetweenAll() {
		words := wordsByTrying(n)
		for i, row := range fewestTurns(n) {
			for j, want := range row {
				if got := rows[i][j]; got != want {
					t.Fatalf("TurnsBetween(%q, %q) = %d, want %d", words[i], words[j], got, want)
				}
			}
		}
	}
}

func TestTurnsBetweenOfOthers(t *testing.T) {
	check := func(a string, b string) {
		t.Helper()
		if got := impl.TurnsBetween(a, b); got != -1 {
			t.Errorf("TurnsBetween(%q, %q) = %d", a, b, got)
		}
	}
	for _, wrong := range noWords {
		check(wrong, wrong)
		for _, s := range []string{"", "()", "(())", "(()())", beside(impl.MaxList)} {
			check(wrong, s)
			check(s, wrong)
		}
	}
	for n := range impl.MaxPairs + 1 {
		for other := range n {
			for _, s := range []string{nested(n), beside(n)} {
				check(s, nested(other))
				check(beside(other), s)
			}
		}
	}
	for n := impl.MaxList + 1; n <= impl.MaxPairs; n++ {
		check(nested(n), nested(n))
		check(beside(n), beside(n))
		check(nested(n), beside(n))
		check(beside(n), nested(n))
		check(beside(n), "(())"+beside(n-2))
	}
}

// Promise 21: turns are counted both ways.
func TestTurnsAreCountedBothWays(t *testing.T) {
	for n, rows := range turnsBetweenAll() {
		words := wordsByTrying(n)
		for i, a := range words {
			turns := impl.TurnsOf(a)
			for j, b := range words {
				between := rows[i][j]
				if between != rows[j][i] {
					t.Fatalf("TurnsBetween(%q, %q) = %d, the other way round %d", a, b, between, rows[j][i])
				}
				if (between == 0) != (a == b) || (between == 1) != slices.Contains(turns, b) {
					t.Fatalf("TurnsBetween(%q, %q) = %d, and TurnsOf the first one is %q", a, b, between, turns)
				}
				if between < 0 || between > impl.TurnsToFlat(a)+impl.TurnsToFlat(b) {
					t.Fatalf("TurnsBetween(%q, %q) = %d, TurnsToFlat are %d and %d", a, b, between, impl.TurnsToFlat(a), impl.TurnsToFlat(b))
				}
			}
		}
	}
}

// Promise 72: no two words are farther.
func TestNoTwoWordsAreFarther(t *testing.T) {
	for n, rows := range turnsBetweenAll() {
		greatest := 0
		for i, row := range rows {
			greatest = max(greatest, slices.Max(row))
			for j, between := range row {
				for by := range rows {
					if row[by]+rows[by][j] < between {
						t.Fatalf("of %d pairs, the words %d and %d are %d turns from each other, but %d and %d from the word %d", n, i, j, between, row[by], rows[by][j], by)
					}
				}
			}
		}
		if n <= impl.MaxTurned && greatest != impl.MostTurns(n) {
			t.Errorf("MostTurns(%d) = %d, but the greatest TurnsBetween is %d", n, impl.MostTurns(n), greatest)
		}
	}
}

// Promise 22: more pairs turn more. Twice the pairs but one is asked for from
// one pair on, for of none it is negative.
func TestMorePairsTurnMore(t *testing.T) {
	for n := 1; n <= impl.MaxTurned; n++ {
		most := impl.MostTurns(n)
		if most < impl.MostTurns(n-1) || most > 2*(n-1) {
			t.Errorf("MostTurns(%d) = %d, of one pair less %d", n, most, impl.MostTurns(n-1))
		}
	}
}

func TestMostTurns(t *testing.T) {
	if impl.MaxTurned != 4 {
		t.Errorf("MaxTurned = %d, want 4", impl.MaxTurned)
	}
	for n, want := range []int{0, 0, 1, 2, 4} {
		if got := impl.MostTurns(n); got != want {
			t.Errorf("MostTurns(%d) = %d, want %d", n, got, want)
		}
	}
	for _, n := range []int{-1, -2, impl.MaxTurned + 1, impl.MaxList, impl.MaxPairs, 100, math.MinInt, math.MaxInt} {
		if got := impl.MostTurns(n); got != -1 {
			t.Errorf("MostTurns(%d) = %d", n, got)
		}
	}
}

// Promise 23: to lie flat takes what is in others.
func TestToLieFlatTakesWhatIsInOthers(t *testing.T) {
	for n := range impl.MaxList + 1 {
		for _, s := range wordsByTrying(n) {
			if flat, between := impl.TurnsToFlat(s), impl.TurnsBetween(s, beside(n)); flat != between {
				t.Fatalf("TurnsToFlat(%q) = %d, but TurnsBetween it and %q = %d", s, flat, beside(n), between)
			}
		}
	}
}

func TestTurnsToFlat(t *testing.T) {
	cases := map[string]int{"": 0, "()": 0, "(())": 1, "()()": 0, "((()))": 2, "()(())": 1, "(()())()": 2, "()((())())": 3}
	for s, want := range cases {
		if got := impl.TurnsToFlat(s); got != want {
			t.Errorf("TurnsToFlat(%q) = %d, want %d", s, got, want)
		}
	}
	for _, s := range allWords() {
		want := 0
		for _, depth := range depthsByCounting(s) {
			want += min(depth, 1)
		}
		if got := impl.TurnsToFlat(s); got != want {
			t.Fatalf("TurnsToFlat(%q) = %d, want %d", s, got, want)
		}
	}
	for _, s := range noWords {
		if got := impl.TurnsToFlat(s); got != -1 {
			t.Errorf("TurnsToFlat(%q) = %d", s, got)
		}
	}
}

// Promise 83: the first word is deepest, and the last one flat.
func TestTheFirstWordIsDeepestAndTheLastOneFlat(t *testing.T) {
	for n := range impl.MaxPairs + 1 {
		first, ok := impl.WordAt(n, 0)
		if !ok || first != nested(n) || impl.TurnsToFlat(first) != max(n-1, 0) {
			t.Errorf("WordAt(%d, 0) = %q, %v, with TurnsToFlat %d", n, first, ok, impl.TurnsToFlat(first))
		}
		rank := impl.CountWords(n) - 1
		last, ok := impl.WordAt(n, rank)
		if !ok || last != beside(n) || impl.TurnsToFlat(last) != 0 {
			t.Errorf("WordAt(%d, %d) = %q, %v, with TurnsToFlat %d", n, rank, last, ok, impl.TurnsToFlat(last))
		}
	}
}

func TestTurnsAreNew(t *testing.T) {
	s := "(()())()"
	want := []string{"((()()))", "((()))()", "()(())()"}
	for range 3 {
		got := impl.TurnsOf(s)
		if !slices.Equal(got, want) {
			t.Errorf("TurnsOf(%q) = %q, want %q", s, got, want)
		}
		clear(got[:cap(got)])
		if between, most := impl.TurnsBetween(s, want[2]), impl.MostTurns(4); between != 1 || most != 4 {
			t.Errorf("TurnsBetween(%q, %q) = %d, MostTurns(4) = %d", s, want[2], between, most)
		}
	}
}
