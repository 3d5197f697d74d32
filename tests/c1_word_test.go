package tests

import (
	"math"
	"slices"
	"strings"
	"testing"

	"loop.example/shapesoftrees/impl"
)

func TestValidWordOfAllShortTexts(t *testing.T) {
	for length := range 15 {
		for _, text := range bracketTexts(length) {
			if got := impl.ValidWord(text); got != balanced(text) {
				t.Fatalf("ValidWord(%q) = %v", text, got)
			}
		}
	}
}

func TestValidWordLimits(t *testing.T) {
	if impl.MaxPairs != 9 || impl.MaxList != 6 {
		t.Errorf("MaxPairs = %d, MaxList = %d, want 9 and 6", impl.MaxPairs, impl.MaxList)
	}
	for n := range impl.MaxPairs + 1 {
		if !impl.ValidWord(nested(n)) || !impl.ValidWord(beside(n)) {
			t.Errorf("the words of %d pairs in each other and beside each other are not valid", n)
		}
	}
	for _, s := range noWords {
		if impl.ValidWord(s) {
			t.Errorf("ValidWord(%q)", s)
		}
	}
}

// Promise 1: words may be turned.
func TestWordsMayBeTurned(t *testing.T) {
	for _, s := range allWords() {
		mirror := impl.MirrorOf(s)
		if !impl.ValidWord(mirror) || len(mirror) != len(s) {
			t.Fatalf("MirrorOf(%q) = %q, which is no word of as many pairs", s, mirror)
		}
		fits := len(s)/2 < impl.MaxPairs
		if impl.ValidWord("("+s+")") != fits {
			t.Fatalf("ValidWord of %q in brackets is not %v", s, fits)
		}
	}
}

func TestMirrorOf(t *testing.T) {
	cases := map[string]string{
		"":                    "",
		"()":                  "()",
		"(())()":              "()(())",
		"(()())()":            "()(()())",
		"((()))()(())":        "(())()((()))",
		nested(impl.MaxPairs): nested(impl.MaxPairs),
		beside(impl.MaxPairs): beside(impl.MaxPairs),
	}
	for s, want := range cases {
		if got := impl.MirrorOf(s); got != want {
			t.Errorf("MirrorOf(%q) = %q, want %q", s, got, want)
		}
	}
	swap := strings.NewReplacer("(", ")", ")", "(")
	for _, s := range allWords() {
		want := []byte(swap.Replace(s))
		slices.Reverse(want)
		if got := impl.MirrorOf(s); got != string(want) {
			t.Fatalf("MirrorOf(%q) = %q", s, got)
		}
	}
	for _, s := range noWords {
		if got := impl.MirrorOf(s); got != "" {
			t.Errorf("MirrorOf(%q) = %q", s, got)
		}
	}
}

// Promise 2: words are counted by a rule.
func TestWordsAreCountedByARule(t *testing.T) {
	for n := range impl.MaxList + 1 {
		if count, listed := impl.CountWords(n), len(impl.WordsOf(n)); count != listed {
			t.Errorf("CountWords(%d) = %d, but %d words are listed", n, count, listed)
		}
	}
	for n := range impl.MaxPairs {
		if (n+2)*impl.CountWords(n+1) != (4*n+2)*impl.CountWords(n) {
			t.Errorf("CountWords(%d) and CountWords(%d) break the rule", n, n+1)
		}
	}
}

func TestCountWords(t *testing.T) {
	for n, want := range catalan {
		if got := impl.CountWords(n); got != want {
			t.Errorf("CountWords(%d) = %d, want %d", n, got, want)
		}
		if tried := len(wordsByTrying(n)); tried != want {
			t.Errorf("%d words of %d pairs are found by trying, want %d", tried, n, want)
		}
	}
	for _, n := range []int{-1, -2, impl.MaxPairs + 1, 100, math.MinInt, math.MaxInt} {
		if got := impl.CountWords(n); got != -1 {
			t.Errorf("CountWords(%d) = %d", n, got)
		}
	}
}

func TestWordsOf(t *testing.T) {
	for n := range impl.MaxList + 1 {
		if got := impl.WordsOf(n); !slices.Equal(got, wordsByTrying(n)) {
			t.Errorf("WordsOf(%d) = %q", n, got)
		}
	}
	if got := impl.WordsOf(0); !slices.Equal(got, []string{""}) {
		t.Errorf("WordsOf(0) = %q", got)
	}
	for _, n := range []int{-1, impl.MaxList + 1, impl.MaxPairs, 100, math.MinInt, math.MaxInt} {
		if got := impl.WordsOf(n); len(got) != 0 {
			t.Errorf("WordsOf(%d) has %d words", n, len(got))
		}
	}
}

func TestDepthsOf(t *testing.T) {
	cases := map[string][]int{
		"":                    {},
		"()":                  {0},
		"(()())()":            {0, 1, 1, 0},
		"()((())())":          {0, 0, 1, 2, 1},
		nested(impl.MaxPairs): {0, 1, 2, 3, 4, 5, 6, 7, 8},
		beside(impl.MaxPairs): make([]int, impl.MaxPairs),
	}
	for s, want := range cases {
		if got := impl.DepthsOf(s); !slices.Equal(got, want) {
			t.Errorf("DepthsOf(%q) = %v, want %v", s, got, want)
		}
	}
	for _, s := range allWords() {
		if got := impl.DepthsOf(s); !slices.Equal(got, depthsByCounting(s)) {
			t.Fatalf("DepthsOf(%q) = %v", s, got)
		}
	}
	for _, s := range noWords {
		if got := impl.DepthsOf(s); len(got) != 0 {
			t.Errorf("DepthsOf(%q) = %v", s, got)
		}
	}
}

// depthsByCounting counts the brackets ahead of each (.
func depthsByCounting(s string) []int {
	var depths []int
	for i := range len(s) {
		if s[i] == '(' {
			depths = append(depths, strings.Count(s[:i], "(")-strings.Count(s[:i], ")"))
		}
	}
	return depths
}

// Promise 4: words are told by depths.
func TestWordsAreToldByDepths(t *testing.T) {
	for _, s := range allWords() {
		if got, ok := impl.WordOfDepths(impl.DepthsOf(s)); !ok || got != s {
			t.Fatalf("WordOfDepths of the depths of %q = %q, %v", s, got, ok)
		}
	}
}

// Promise 5: depths are told by words, and other numbers by none.
func TestDepthsAreToldByWords(t *testing.T) {
	for length := range 7 {
		found := 0
		for _, d := range rowsOfNumbers(length, -1, length) {
			s, ok := impl.WordOfDepths(d)
			if !ok {
				if s != "" {
					t.Fatalf("WordOfDepths(%v) = %q, false", d, s)
				}
				continue
			}
			found++
			if !impl.ValidWord(s) || !slices.Equal(impl.DepthsOf(s), d) {
				t.Fatalf("WordOfDepths(%v) = %q, whose depths are %v", d, s, impl.DepthsOf(s))
			}
		}
		if found != catalan[length] {
			t.Errorf("%d rows of %d numbers are depths, want %d", found, length, catalan[length])
		}
	}
}

// rowsOfNumbers returns all rows of so many numbers from least to greatest.
func rowsOfNumbers(length int, least int, greatest int) [][]int {
	rows := [][]int{{}}
	for range length {
		var longer [][]int
		for _, row := range rows {
			for number := least; number <= greatest; number++ {
				longer = append(longer, append(slices.Clone(row), number))
			}
		}
		rows = longer
	}
	return rows
}

func TestWordOfDepthsOfNoWord(t *testing.T) {
	cases := [][]int{
		{1}, {-1}, {0, 2}, {0, -1}, {0, 1, 3}, {0, 1, 0, 2}, {1, 0}, {0, 0, -1, 0},
		{math.MaxInt}, {math.MinInt}, {0, math.MaxInt}, {0, math.MinInt}, {0, 1, math.MaxInt, 0},
		make([]int, impl.MaxPairs+1), {0, 1, 2, 3, 4, 5, 6, 7, 8, 9}, make([]int, 1000),
	}
	for _, d := range cases {
		if got, ok := impl.WordOfDepths(d); ok || got != "" {
			t.Errorf("WordOfDepths(%v) = %q, %v", d, got, ok)
		}
	}
}

func TestWordOfNoDepths(t *testing.T) {
	for _, d := range [][]int{nil, {}} {
		if got, ok := impl.WordOfDepths(d); !ok || got != "" {
			t.Errorf("WordOfDepths(%v) = %q, %v", d, got, ok)
		}
	}
}

// Promise 6: parents are one less deep.
func TestParentsAreOneLessDeep(t *testing.T) {
	for _, s := range allWords() {
		depths, parents := impl.DepthsOf(s), impl.ParentsOf(s)
		if len(depths) != len(s)/2 || len(parents) != len(s)/2 {
			t.Fatalf("DepthsOf(%q) = %v, ParentsOf(%q) = %v", s, depths, s, parents)
		}
		for node, parent := range parents {
			if parent == -1 && depths[node] == 0 {
				continue
			}
			if parent < 0 || parent >= node || depths[node] != depths[parent]+1 {
				t.Fatalf("ParentsOf(%q) = %v, with the depths %v", s, parents, depths)
			}
		}
	}
}

func TestParentsOf(t *testing.T) {
	cases := map[string][]int{
		"":                    {},
		"()":                  {-1},
		"(()())()":            {-1, 0, 0, -1},
		"()((())())":          {-1, -1, 1, 2, 1},
		nested(impl.MaxPairs): {-1, 0, 1, 2, 3, 4, 5, 6, 7},
		beside(impl.MaxPairs): {-1, -1, -1, -1, -1, -1, -1, -1, -1},
	}
	for s, want := range cases {
		if got := impl.ParentsOf(s); !slices.Equal(got, want) {
			t.Errorf("ParentsOf(%q) = %v, want %v", s, got, want)
		}
	}
	for _, s := range allWords() {
		if got := impl.ParentsOf(s); !slices.Equal(got, parentsByDepths(s)) {
			t.Fatalf("ParentsOf(%q) = %v", s, got)
		}
	}
	for _, s := range noWords {
		if got := impl.ParentsOf(s); len(got) != 0 {
			t.Errorf("ParentsOf(%q) = %v", s, got)
		}
	}
}

// parentsByDepths takes the last node ahead that is one less deep.
func parentsByDepths(s string) []int {
	depths := depthsByCounting(s)
	var parents []int
	for node, depth := range depths {
		parent := node - 1
		for parent >= 0 && depths[parent] != depth-1 {
			parent--
		}
		parents = append(parents, parent)
	}
	return parents
}

// Promise 7: twice mirrored is as before.
func TestTwiceMirroredIsAsBefore(t *testing.T) {
	for _, s := range allWords() {
		mirror := impl.MirrorOf(s)
		if twice := impl.MirrorOf(mirror); twice != s {
			t.Fatalf("MirrorOf MirrorOf %q = %q", s, twice)
		}
		if impl.LeavesOf(mirror) != impl.LeavesOf(s) {
			t.Fatalf("%q has %d leaves, and mirrored %d", s, impl.LeavesOf(s), impl.LeavesOf(mirror))
		}
	}
}

// Promise 8: leaves are no parents.
func TestLeavesAreNoParents(t *testing.T) {
	for _, s := range allWords() {
		parents := impl.ParentsOf(s)
		leaves := 0
		for node := range len(s) / 2 {
			if !slices.Contains(parents, node) {
				leaves++
			}
		}
		if got := impl.LeavesOf(s); got != leaves {
			t.Fatalf("LeavesOf(%q) = %d, but %d nodes are no parents", s, got, leaves)
		}
	}
}

func TestLeavesOf(t *testing.T) {
	cases := map[string]int{
		"": 0, "()": 1, "(()())()": 3, "()((())())": 3,
		nested(impl.MaxPairs): 1, beside(impl.MaxPairs): impl.MaxPairs,
	}
	for s, want := range cases {
		if got := impl.LeavesOf(s); got != want {
			t.Errorf("LeavesOf(%q) = %d, want %d", s, got, want)
		}
	}
	for _, s := range noWords {
		if got := impl.LeavesOf(s); got != -1 {
			t.Errorf("LeavesOf(%q) = %d", s, got)
		}
	}
}

// Promise 87: depths are ways to roots.
func TestDepthsAreWaysToRoots(t *testing.T) {
	for _, s := range allWords() {
		together := 0
		for _, depth := range impl.DepthsOf(s) {
			together += depth
		}
		if pairs := nodesInOthers(s); together != pairs {
			t.Fatalf("DepthsOf(%q) are together %d, but %d pairs of nodes are in each other", s, together, pairs)
		}
		ways := make([]int, len(s)/2)
		steps := 0
		for node, parent := range impl.ParentsOf(s) {
			if parent >= 0 {
				ways[node] = ways[parent] + 1
			}
			steps += ways[node]
		}
		if together != steps {
			t.Fatalf("DepthsOf(%q) are together %d, but %d steps lead to the roots", s, together, steps)
		}
	}
}

// nodesInOthers returns how many pairs of nodes of a word there are, of which
// one is in the other one.
func nodesInOthers(s string) int {
	if s == "" {
		return 0
	}
	within, behind := cutWord(s)
	return len(within)/2 + nodesInOthers(within) + nodesInOthers(behind)
}

func TestWordResultsAreNew(t *testing.T) {
	s := "(()())()"
	clear(impl.DepthsOf(s))
	clear(impl.ParentsOf(s))
	clear(impl.WordsOf(2))
	if got := impl.DepthsOf(s); !slices.Equal(got, []int{0, 1, 1, 0}) {
		t.Errorf("DepthsOf(%q) = %v after an earlier result was changed", s, got)
	}
	if got := impl.ParentsOf(s); !slices.Equal(got, []int{-1, 0, 0, -1}) {
		t.Errorf("ParentsOf(%q) = %v after an earlier result was changed", s, got)
	}
	if got := impl.WordsOf(2); !slices.Equal(got, []string{"(())", "()()"}) {
		t.Errorf("WordsOf(2) = %q after an earlier result was changed", got)
	}
	for _, d := range [][]int{{0, 1, 1, 0}, {0, 1, 5, 0}} {
		before := slices.Clone(d)
		impl.WordOfDepths(d)
		if !slices.Equal(d, before) {
			t.Errorf("WordOfDepths changed %v to %v", before, d)
		}
	}
}
