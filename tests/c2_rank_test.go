package tests

import (
	"math"
	"slices"
	"strings"
	"testing"

	"loop.example/shapesoftrees/impl"
)

// Promise 3: all words are listed.
func TestAllWordsAreListed(t *testing.T) {
	for n := range impl.MaxList + 1 {
		words := impl.WordsOf(n)
		if len(words) != catalan[n] {
			t.Errorf("WordsOf(%d) has %d words, want %d", n, len(words), catalan[n])
		}
		for place, s := range words {
			if !impl.ValidWord(s) || len(s) != 2*n {
				t.Fatalf("WordsOf(%d) has %q, which is no word of %d pairs", n, s, n)
			}
			if place > 0 && words[place-1] >= s {
				t.Fatalf("WordsOf(%d) has %q behind %q", n, s, words[place-1])
			}
			if rank := impl.RankOf(s); rank != place {
				t.Fatalf("RankOf(%q) = %d, but its place in WordsOf(%d) is %d", s, rank, n, place)
			}
		}
	}
}

// Promise 9: words end by one bracket and the rest.
func TestWordsEndByOneBracketAndTheRest(t *testing.T) {
	for open := range impl.MaxPairs + 1 {
		for left := range impl.MaxPairs + 1 - open {
			rest := 0
			if left > 0 {
				rest += impl.EndsOf(open+1, left-1)
			}
			if open > 0 {
				rest += impl.EndsOf(open-1, left)
			}
			if open+left > 0 && impl.EndsOf(open, left) != rest {
				t.Errorf("EndsOf(%d, %d) = %d, but with one bracket more there are %d", open, left, impl.EndsOf(open, left), rest)
			}
		}
	}
	for n := range impl.MaxPairs + 1 {
		if impl.EndsOf(0, n) != impl.CountWords(n) {
			t.Errorf("EndsOf(0, %d) = %d, want %d", n, impl.EndsOf(0, n), impl.CountWords(n))
		}
	}
}

func TestEndsOf(t *testing.T) {
	for pairs := range impl.MaxPairs + 1 {
		words := wordsByTrying(pairs)
		for open := range pairs + 1 {
			want := 0
			for _, s := range words {
				if strings.HasPrefix(s, strings.Repeat("(", open)) {
					want++
				}
			}
			if got := impl.EndsOf(open, pairs-open); got != want {
				t.Errorf("EndsOf(%d, %d) = %d, want %d", open, pairs-open, got, want)
			}
		}
	}
}

func TestEndsOfNoWord(t *testing.T) {
	cases := [][2]int{
		{-1, 0}, {0, -1}, {-1, 2}, {2, -1}, {-1, -1}, {-1, 10}, {10, -1},
		{10, 0}, {0, 10}, {9, 1}, {1, 9}, {5, 5}, {9, 9}, {100, 100},
		{math.MaxInt, math.MaxInt}, {math.MinInt, math.MinInt}, {math.MaxInt, 1}, {1, math.MaxInt},
		{math.MinInt, 0}, {0, math.MinInt}, {math.MaxInt, math.MinInt}, {math.MinInt, math.MaxInt},
	}
	for _, c := range cases {
		if got := impl.EndsOf(c[0], c[1]); got != -1 {
			t.Errorf("EndsOf(%d, %d) = %d", c[0], c[1], got)
		}
	}
}

// Promise 10: words are found by their ranks.
func TestWordsAreFoundByTheirRanks(t *testing.T) {
	for _, s := range allWords() {
		n, rank := len(s)/2, impl.RankOf(s)
		if rank < 0 || rank >= impl.CountWords(n) {
			t.Fatalf("RankOf(%q) = %d, of %d words", s, rank, impl.CountWords(n))
		}
		if got, ok := impl.WordAt(n, rank); !ok || got != s {
			t.Fatalf("WordAt(%d, %d) = %q, %v, but this is the rank of %q", n, rank, got, ok, s)
		}
	}
}

// Promise 11: ranks are found by their words.
func TestRanksAreFoundByTheirWords(t *testing.T) {
	for n := range impl.MaxPairs + 1 {
		for r := range impl.CountWords(n) {
			s, ok := impl.WordAt(n, r)
			if !ok || !impl.ValidWord(s) || len(s) != 2*n {
				t.Fatalf("WordAt(%d, %d) = %q, %v", n, r, s, ok)
			}
			if got := impl.RankOf(s); got != r {
				t.Fatalf("WordAt(%d, %d) = %q, whose rank is %d", n, r, s, got)
			}
		}
	}
}

func TestRankOfAndWordAt(t *testing.T) {
	for n := range impl.MaxPairs + 1 {
		for r, s := range wordsByTrying(n) {
			if got := impl.RankOf(s); got != r {
				t.Fatalf("RankOf(%q) = %d, want %d", s, got, r)
			}
			if got, ok := impl.WordAt(n, r); !ok || got != s {
				t.Fatalf("WordAt(%d, %d) = %q, %v, want %q", n, r, got, ok, s)
			}
		}
	}
}

func TestFirstWordAndLastWord(t *testing.T) {
	for n := range impl.MaxPairs + 1 {
		last := catalan[n] - 1
		if impl.RankOf(nested(n)) != 0 || impl.RankOf(beside(n)) != last {
			t.Errorf("of %d pairs, the ranks of the first word and of the last one are %d and %d", n, impl.RankOf(nested(n)), impl.RankOf(beside(n)))
		}
		if got, ok := impl.WordAt(n, 0); !ok || got != nested(n) {
			t.Errorf("WordAt(%d, 0) = %q, %v", n, got, ok)
		}
		if got, ok := impl.WordAt(n, last); !ok || got != beside(n) {
			t.Errorf("WordAt(%d, %d) = %q, %v", n, last, got, ok)
		}
	}
}

func TestRankOfNoWord(t *testing.T) {
	for _, s := range noWords {
		if got := impl.RankOf(s); got != -1 {
			t.Errorf("RankOf(%q) = %d", s, got)
		}
	}
}

func TestWordAtOfNoRank(t *testing.T) {
	for n := range impl.MaxPairs + 1 {
		for _, r := range []int{-1, -2, catalan[n], catalan[n] + 1, 5000, math.MinInt, math.MaxInt} {
			if got, ok := impl.WordAt(n, r); ok || got != "" {
				t.Errorf("WordAt(%d, %d) = %q, %v", n, r, got, ok)
			}
		}
	}
	for _, n := range []int{-1, -2, impl.MaxPairs + 1, 100, math.MinInt, math.MaxInt} {
		for _, r := range []int{-1, 0, 1, math.MinInt, math.MaxInt} {
			if got, ok := impl.WordAt(n, r); ok || got != "" {
				t.Errorf("WordAt(%d, %d) = %q, %v", n, r, got, ok)
			}
		}
	}
}

// Promise 12: the next word has the next rank, and only the last one has none.
func TestTheNextWordHasTheNextRank(t *testing.T) {
	for _, s := range allWords() {
		next, ok := impl.NextWord(s)
		if isLast := s == beside(len(s)/2); ok == isLast {
			t.Fatalf("NextWord(%q) = %q, %v", s, next, ok)
		}
		if !ok {
			if next != "" {
				t.Fatalf("NextWord(%q) = %q, false", s, next)
			}
			continue
		}
		if len(next) != len(s) || impl.RankOf(next) != impl.RankOf(s)+1 {
			t.Fatalf("NextWord(%q) = %q, and their ranks are %d and %d", s, next, impl.RankOf(s), impl.RankOf(next))
		}
	}
}

// Promise 84: next words are all words.
func TestNextWordsAreAllWords(t *testing.T) {
	for n := range impl.MaxPairs + 1 {
		listed := impl.WordsOf(n)
		if n > impl.MaxList {
			listed = wordsByTrying(n)
		}
		var met []string
		for s, ok := nested(n), true; ok && len(met) <= len(listed); s, ok = impl.NextWord(s) {
			met = append(met, s)
		}
		if !slices.Equal(met, listed) {
			t.Errorf("of %d pairs, NextWord comes to %d words %.9q, want %d words", n, len(met), met, len(listed))
		}
	}
}

func TestNextWord(t *testing.T) {
	cases := map[string]string{
		"(())":     "()()",
		"((()))":   "(()())",
		"(()())":   "(())()",
		"(())()":   "()(())",
		"()(())":   "()()()",
		"(()()())": "(()())()",
	}
	for s, want := range cases {
		if got, ok := impl.NextWord(s); !ok || got != want {
			t.Errorf("NextWord(%q) = %q, %v, want %q", s, got, ok, want)
		}
	}
	noNext := []string{"", "()", "()()", beside(impl.MaxPairs)}
	for _, s := range append(noNext, noWords...) {
		if got, ok := impl.NextWord(s); ok || got != "" {
			t.Errorf("NextWord(%q) = %q, %v", s, got, ok)
		}
	}
}

// Promise 13: leaves are counted evenly. Its second half begins at one pair: of
// none there is one word without leaves, but no word with one.
func TestLeavesAreCountedEvenly(t *testing.T) {
	for n := range impl.MaxList + 1 {
		sum := 0
		for k := range impl.MaxList + 1 {
			sum += impl.CountLeaves(n, k)
		}
		if sum != impl.CountWords(n) {
			t.Errorf("CountLeaves(%d, k) are together %d, want %d", n, sum, impl.CountWords(n))
		}
		for k := 1; k <= n; k++ {
			if few, many := impl.CountLeaves(n, k), impl.CountLeaves(n, n+1-k); few != many {
				t.Errorf("CountLeaves(%d, %d) = %d, CountLeaves(%d, %d) = %d", n, k, few, n, n+1-k, many)
			}
		}
	}
}

// Promise 69: leaves are counted one by one.
func TestLeavesAreCountedOneByOne(t *testing.T) {
	for n := range impl.MaxList + 1 {
		found := make([]int, impl.MaxList+1)
		for _, s := range impl.WordsOf(n) {
			found[impl.LeavesOf(s)]++
		}
		for k, want := range found {
			if got := impl.CountLeaves(n, k); got != want {
				t.Errorf("CountLeaves(%d, %d) = %d, but %d words are listed", n, k, got, want)
			}
		}
	}
}

func TestCountLeaves(t *testing.T) {
	cases := [][]int{
		{1, 0, 0, 0, 0, 0, 0},
		{0, 1, 0, 0, 0, 0, 0},
		{0, 1, 1, 0, 0, 0, 0},
		{0, 1, 3, 1, 0, 0, 0},
		{0, 1, 6, 6, 1, 0, 0},
		{0, 1, 10, 20, 10, 1, 0},
		{0, 1, 15, 50, 50, 15, 1},
	}
	for n, row := range cases {
		for k, want := range row {
			if got := impl.CountLeaves(n, k); got != want {
				t.Errorf("CountLeaves(%d, %d) = %d, want %d", n, k, got, want)
			}
		}
	}
	for _, wrong := range []int{-1, -2, impl.MaxList + 1, impl.MaxPairs, 100, math.MinInt, math.MaxInt} {
		for _, other := range []int{0, 1, impl.MaxList, wrong} {
			if got := impl.CountLeaves(wrong, other); got != -1 {
				t.Errorf("CountLeaves(%d, %d) = %d", wrong, other, got)
			}
			if got := impl.CountLeaves(other, wrong); got != -1 {
				t.Errorf("CountLeaves(%d, %d) = %d", other, wrong, got)
			}
		}
	}
}

// What a word is asked for does not depend on what was asked before.
func TestRanksKeepNoState(t *testing.T) {
	for range 3 {
		if got, ok := impl.WordAt(4, 7); !ok || got != "(())(())" {
			t.Errorf("WordAt(4, 7) = %q, %v", got, ok)
		}
		if got, ok := impl.NextWord("(())(())"); !ok || got != "(())()()" {
			t.Errorf("NextWord = %q, %v", got, ok)
		}
		if got := impl.RankOf("(())(())"); got != 7 {
			t.Errorf("RankOf = %d", got)
		}
		if got := impl.EndsOf(2, 3); got != 28 {
			t.Errorf("EndsOf(2, 3) = %d", got)
		}
	}
}
