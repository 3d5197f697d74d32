package tests

import (
	"math"
	"slices"
	"sync"
	"testing"

	"loop.example/shapesoftrees/impl"
)

// costs are what loads cost to be joined, to be joined beside each other, and
// to be found.
type costs struct {
	join, beside, find int
}

// noCosts are the costs of what are no loads.
var noCosts = costs{-1, -1, -1}

// loadCases are loads whose costs were found by hand.
var loadCases = []struct {
	loads []int
	costs costs
}{
	// No loads and one load.
	{nil, costs{0, 0, 0}},
	{[]int{}, costs{0, 0, 0}},
	{[]int{0}, costs{0, 0, 0}},
	{[]int{1}, costs{0, 0, 1}},
	{[]int{20}, costs{0, 0, 20}},
	// Loads of 0.
	{[]int{0, 0}, costs{0, 0, 0}},
	{[]int{0, 5}, costs{5, 5, 5}},
	{[]int{5, 0}, costs{5, 5, 5}},
	{[]int{0, 5, 0}, costs{5, 10, 5}},
	{[]int{5, 0, 5}, costs{15, 15, 15}},
	{[]int{0, 0, 0, 0, 0}, costs{0, 0, 0}},
	{[]int{0, 20, 0, 20, 0}, costs{60, 100, 60}},
	{[]int{0, 0, 0, 0, 0, 0}, costs{0, 0, 0}},
	{[]int{0, 0, 0, 0, 0, 0, 0}, costs{0, 0, 0}},
	// Loads that are all the same.
	{[]int{3, 3}, costs{6, 6, 9}},
	{[]int{3, 3, 3}, costs{15, 15, 15}},
	{[]int{1, 1, 1, 1}, costs{8, 8, 8}},
	{[]int{1, 1, 1, 1, 1}, costs{12, 12, 11}},
	{[]int{1, 1, 1, 1, 1, 1}, costs{16, 16, 14}},
	{[]int{1, 1, 1, 1, 1, 1, 1}, costs{20, 20, 17}},
	{[]int{20, 20, 20, 20, 20, 20, 20}, costs{400, 400, 340}},
	// The order of loads matters.
	{[]int{1, 2}, costs{3, 3, 4}},
	{[]int{1, 1, 4}, costs{8, 8, 9}},
	{[]int{1, 4, 1}, costs{8, 11, 8}},
	{[]int{1, 2, 3, 4}, costs{19, 19, 18}},
	{[]int{4, 1, 1, 4}, costs{18, 18, 19}},
	{[]int{1, 4, 4, 1}, costs{18, 20, 17}},
	{[]int{9, 1, 9, 1}, costs{33, 40, 32}},
	{[]int{1, 2, 4, 8, 16}, costs{56, 56, 57}},
	// The greatest load is not always the first node.
	{[]int{10, 9, 8, 7, 6}, costs{93, 93, 85}},
}

// noLoads are numbers that are no loads.
var noLoads = [][]int{
	// Loads below 0.
	{-1}, {-2}, {-20}, {0, -1}, {-1, 0}, {5, -1, 5}, {-1, -1}, {-1, 1}, {1, 2, 3, 4, 5, 6, -1}, {-1, 1, 1, 1, 1, 1, 1},
	{math.MinInt}, {math.MinInt + 1, 0}, {0, math.MinInt}, {math.MinInt, math.MinInt},
	// Loads past the limit.
	{21}, {22}, {0, 21}, {21, 0}, {20, 21, 20}, {21, -1}, {1, 2, 3, 4, 5, 6, 21}, {21, 1, 1, 1, 1, 1, 1}, {256}, {1 << 32},
	{math.MaxInt}, {0, math.MaxInt}, {math.MaxInt, 1}, {math.MaxInt, math.MaxInt}, {math.MinInt, math.MaxInt},
	// Too many loads.
	{1, 2, 3, 4, 5, 6, 7, 8}, {0, 0, 0, 0, 0, 0, 0, 0}, {20, 20, 20, 20, 20, 20, 20, 20}, {1, 1, 1, 1, 1, 1, 1, 1, 1}, {1, 2, 3, 4, 5, 6, 7, -1},
	make([]int, impl.MaxLoads+1), make([]int, impl.MaxPairs), make([]int, impl.MaxPairs+1), make([]int, impl.MaxLoad), make([]int, 1000),
}

// manyLoads returns all loads of few different ones, the fewer the more loads
// there are, and some of all.
var manyLoads = sync.OnceValue(func() [][]int {
	all := numbersFrom(0, impl.MaxLoad)
	different := [][]int{
		nil, all, all, {0, 1, 2, 3, 7, 10, 20}, {0, 1, 2, 5, 20}, {0, 1, 3, 20}, {0, 1, 7}, {0, 3, 20},
	}
	var lists [][]int
	for n, numbers := range different {
		for _, places := range rowsOfNumbers(n, 0, len(numbers)-1) {
			lists = append(lists, chosenNumbers(numbers, places))
		}
	}
	for n := 3; n <= impl.MaxLoads; n++ {
		for step := range 100 {
			lists = append(lists, mixedLoads(n, step))
		}
	}
	return lists
})

// mixedLoads returns n loads that look as if they were chosen at will.
func mixedLoads(n int, step int) []int {
	number := 7*n + step
	var loads []int
	for range n {
		number = (number*1103515245 + 12345) % (1 << 31)
		loads = append(loads, number>>16%(impl.MaxLoad+1))
	}
	return loads
}

// fewLoads returns those of manyLoads of which all may be tried.
func fewLoads() [][]int {
	var lists [][]int
	for _, w := range manyLoads() {
		if len(w) <= impl.MaxTried {
			lists = append(lists, w)
		}
	}
	return lists
}

// numbersFrom returns all numbers from the least to the greatest one.
func numbersFrom(least int, greatest int) []int {
	var numbers []int
	for number := least; number <= greatest; number++ {
		numbers = append(numbers, number)
	}
	return numbers
}

// chosenNumbers returns the numbers at some places.
func chosenNumbers(numbers []int, places []int) []int {
	var list []int
	for _, place := range places {
		list = append(list, numbers[place])
	}
	return list
}

// wordsOfPairs returns all words of so many pairs as there may be loads.
var wordsOfPairs = sync.OnceValue(func() [][]string {
	var words [][]string
	for n := range impl.MaxLoads + 1 {
		words = append(words, wordsByTrying(n))
	}
	return words
})

// joinedBeside returns, for each number of loads, in which ways these are joined
// beside each other: each way as the triangles that cut a polygon of one more
// side than loads.
var joinedBeside = sync.OnceValue(func() [][][][]int {
	ways := [][][][]int{{nil}}
	for _, words := range wordsOfPairs()[:impl.MaxLoads] {
		var cuts [][][]int
		for _, s := range words {
			cuts = append(cuts, cutPolygon(s, 0))
		}
		ways = append(ways, cuts)
	}
	return ways
})

// joinBySets returns what JoinCost and JoinTried should: the last two to be
// joined are two sets of loads.
func joinBySets(w []int) int {
	least := make([]int, 1<<len(w))
	for set := range least {
		sum := 0
		for place, load := range w {
			sum += load * (set >> place & 1)
		}
		if set&(set-1) == 0 {
			continue
		}
		least[set] = math.MaxInt
		for part := (set - 1) & set; part > 0; part = (part - 1) & set {
			least[set] = min(least[set], least[part]+least[set&^part]+sum)
		}
	}
	return least[len(least)-1]
}

// besideByTriangles returns what BesideCost should: each triangle joins the
// loads at the sides between its corners.
func besideByTriangles(w []int) int {
	least := math.MaxInt
	for _, rows := range joinedBeside()[len(w)] {
		cost := 0
		for _, row := range rows {
			cost += sumOf(w[row[0]:row[2]])
		}
		least = min(least, cost)
	}
	return least
}

// findByText returns what FindBy should, by cutting the text of a word to whose
// first node so many arms lead.
func findByText(w []int, s string, arms int) int {
	if s == "" {
		return 0
	}
	within, behind := cutWord(s)
	place := len(within) / 2
	return findByText(w[:place], within, arms+1) + (1+arms)*w[place] + findByText(w[place+1:], behind, arms+1)
}

// stepsOfWords returns, for each number of pairs, of all words what a load of 1
// at each place costs.
var stepsOfWords = sync.OnceValue(func() [][][]int {
	var all [][][]int
	for n, words := range wordsOfPairs() {
		var rows [][]int
		for _, s := range words {
			var row []int
			for place := range n {
				one := make([]int, n)
				one[place] = 1
				row = append(row, findByText(one, s, 0))
			}
			rows = append(rows, row)
		}
		all = append(all, rows)
	}
	return all
})

// findByAllWords returns what FindCost and FindTried should: the least of what
// all words cost.
func findByAllWords(w []int) int {
	least := math.MaxInt
	for _, steps := range stepsOfWords()[len(w)] {
		cost := 0
		for place, load := range w {
			cost += steps[place] * load
		}
		least = min(least, cost)
	}
	return least
}

// armsTo returns, for each node of the two-armed tree of a word, how many arms
// lead to it from the first node.
func armsTo(s string) []int {
	rows := impl.BinOf(s)
	arms := make([]int, len(rows))
	// A node stands ahead of those on its arms, so its own arms are counted first.
	for node, row := range rows {
		for _, next := range row {
			if next != -1 {
				arms[next] = arms[node] + 1
			}
		}
	}
	return arms
}

// checkCosts checks what all functions but FindBy return of numbers.
func checkCosts(t *testing.T, w []int, want costs) {
	t.Helper()
	if got := (costs{impl.JoinCost(w), impl.BesideCost(w), impl.FindCost(w)}); got != want {
		t.Fatalf("JoinCost, BesideCost and FindCost(%v) = %+v, want %+v", w, got, want)
	}
	tried := want
	if len(w) > impl.MaxTried {
		tried = noCosts
	}
	if join, find := impl.JoinTried(w), impl.FindTried(w); join != tried.join || find != tried.find {
		t.Fatalf("JoinTried(%v) = %d, FindTried = %d, want %+v", w, join, find, tried)
	}
	if got := impl.ValidLoads(w); got != (want != noCosts) {
		t.Fatalf("ValidLoads(%v) = %v", w, got)
	}
}

// checkNoLoads checks that all functions refuse numbers.
func checkNoLoads(t *testing.T, w []int) {
	t.Helper()
	checkCosts(t, w, noCosts)
	for _, s := range []string{nested(len(w)), beside(len(w)), ""} {
		checkFindBy(t, w, s, -1)
	}
}

// checkFindBy checks what FindBy returns.
func checkFindBy(t *testing.T, w []int, s string, want int) {
	t.Helper()
	if got := impl.FindBy(w, s); got != want {
		t.Fatalf("FindBy(%v, %q) = %d, want %d", w, s, got, want)
	}
}

func TestLoadCases(t *testing.T) {
	for _, c := range loadCases {
		checkCosts(t, c.loads, c.costs)
	}
}

func TestNoLoads(t *testing.T) {
	for _, w := range noLoads {
		checkNoLoads(t, w)
	}
}

func TestLoadLimits(t *testing.T) {
	if impl.MaxLoads != 7 || impl.MaxLoad != 20 || impl.MaxTried != 5 {
		t.Errorf("MaxLoads = %d, MaxLoad = %d, MaxTried = %d, want 7, 20 and 5", impl.MaxLoads, impl.MaxLoad, impl.MaxTried)
	}
	for n := range 30 {
		for load := -2; load <= impl.MaxLoad+2; load++ {
			w := slices.Repeat([]int{load}, n)
			if n > impl.MaxLoads || n > 0 && (load < 0 || load > impl.MaxLoad) {
				checkNoLoads(t, w)
				continue
			}
			checkCosts(t, w, costs{joinBySets(w), besideByTriangles(w), findByAllWords(w)})
		}
	}
}

func TestLoadsWithOneLoadChanged(t *testing.T) {
	for n := 1; n <= impl.MaxLoads; n++ {
		w := mixedLoads(n, 0)
		for place, before := range w {
			for _, load := range []int{-1, -2, -impl.MaxLoad, impl.MaxLoad + 1, impl.MaxLoad + 2, math.MinInt, math.MaxInt} {
				w[place] = load
				checkNoLoads(t, w)
			}
			for _, load := range []int{0, impl.MaxLoad} {
				w[place] = load
				checkCosts(t, w, costs{joinBySets(w), besideByTriangles(w), findByAllWords(w)})
			}
			w[place] = before
		}
	}
}

func TestCostsOfManyLoads(t *testing.T) {
	for _, w := range manyLoads() {
		checkCosts(t, w, costs{joinBySets(w), besideByTriangles(w), findByAllWords(w)})
	}
}

func TestFindBy(t *testing.T) {
	for _, c := range []struct {
		loads []int
		word  string
		cost  int
	}{
		{nil, "", 0},
		{[]int{}, "", 0},
		{[]int{0}, "()", 0},
		{[]int{20}, "()", 20},
		{[]int{1, 10}, "(())", 12},
		{[]int{1, 10}, "()()", 21},
		{[]int{1, 2, 3}, "((()))", 10},
		{[]int{1, 2, 3}, "(()())", 11},
		{[]int{1, 2, 3}, "(())()", 10},
		{[]int{1, 2, 3}, "()(())", 13},
		{[]int{1, 2, 3}, "()()()", 14},
		{[]int{0, 0, 0}, "()()()", 0},
		{[]int{1, 0, 20}, "()(())", 41},
		{[]int{1, 2, 4, 8}, "(()())()", 28},
		{[]int{1, 2, 4, 8, 16}, "((())())()", 59},
		{[]int{1, 1, 1, 1, 1, 1, 1}, "((())())(())()", 17},
		{[]int{20, 20, 20, 20, 20, 20, 20}, "((((((()))))))", 560},
		{[]int{20, 20, 20, 20, 20, 20, 20}, "()()()()()()()", 560},
		{[]int{1, 2, 3, 4, 5, 6, 7}, "((((((()))))))", 84},
		{[]int{1, 2, 3, 4, 5, 6, 7}, "()()()()()()()", 140},
	} {
		checkFindBy(t, c.loads, c.word, c.cost)
	}
}

func TestFindByAllWords(t *testing.T) {
	for n, words := range wordsOfPairs() {
		for _, s := range words {
			for step := range 20 {
				w := mixedLoads(n, step)
				checkFindBy(t, w, s, findByText(w, s, 0))
			}
			for place := range n {
				w := make([]int, n)
				w[place] = impl.MaxLoad
				checkFindBy(t, w, s, findByText(w, s, 0))
			}
		}
	}
}

func TestFindByWordsOfOtherSizes(t *testing.T) {
	for n := range impl.MaxLoads + 1 {
		w := mixedLoads(n, 0)
		for pairs := range impl.MaxPairs + 3 {
			if pairs != n {
				checkFindBy(t, w, nested(pairs), -1)
				checkFindBy(t, w, beside(pairs), -1)
			}
		}
		for pairs, words := range wordsOfPairs() {
			for _, s := range words {
				if pairs != n {
					checkFindBy(t, w, s, -1)
				}
			}
		}
	}
}

func TestFindByTextsThatAreNoWords(t *testing.T) {
	for n := range impl.MaxLoads + 1 {
		w := mixedLoads(n, 0)
		for _, s := range noWords {
			checkFindBy(t, w, s, -1)
		}
		for _, length := range []int{2*n - 1, 2 * n, 2*n + 1} {
			for _, s := range bracketTexts(max(length, 0)) {
				if !balanced(s) {
					checkFindBy(t, w, s, -1)
				}
			}
		}
	}
	for _, w := range noLoads {
		for _, s := range noWords {
			checkFindBy(t, w, s, -1)
		}
	}
}

// Promise 61: loads may be turned.
func TestLoadsMayBeTurned(t *testing.T) {
	for _, w := range manyLoads() {
		if turned := otherWayRound(w); !impl.ValidLoads(w) || !impl.ValidLoads(turned) {
			t.Fatalf("ValidLoads(%v) = %v, the other way round %v", w, impl.ValidLoads(w), impl.ValidLoads(turned))
		}
	}
	for _, w := range noLoads {
		checkNoLoads(t, otherWayRound(w))
	}
}

// Promise 62: least first is least.
func TestLeastFirstIsLeast(t *testing.T) {
	for _, w := range manyLoads() {
		join, beside := impl.JoinCost(w), impl.BesideCost(w)
		if join < 0 || join > beside {
			t.Fatalf("JoinCost(%v) = %d, BesideCost = %d", w, join, beside)
		}
		if len(w) <= impl.MaxTried && impl.JoinTried(w) != join {
			t.Fatalf("JoinCost(%v) = %d, JoinTried = %d", w, join, impl.JoinTried(w))
		}
		for _, moved := range [][]int{otherWayRound(w), everyOtherFirst(w), ascending(w)} {
			if got := impl.JoinCost(moved); got != join {
				t.Fatalf("JoinCost(%v) = %d, but of %v it is %d", w, join, moved, got)
			}
		}
	}
}

func TestLeastFirstIsLeastInAnyOrder(t *testing.T) {
	for n := range impl.MaxLoads + 1 {
		w := mixedLoads(n, 1)
		join := impl.JoinCost(w)
		for _, order := range rowsInAnyOrder(n) {
			moved := chosenNumbers(w, order)
			if got := impl.JoinCost(moved); got != join {
				t.Fatalf("JoinCost(%v) = %d, but of %v it is %d", w, join, moved, got)
			}
			if n <= impl.MaxTried && impl.JoinTried(moved) != join {
				t.Fatalf("JoinCost(%v) = %d, but JoinTried of %v is %d", w, join, moved, impl.JoinTried(moved))
			}
		}
	}
}

// Promise 63: what is tried is least first.
func TestWhatIsTriedIsLeastFirst(t *testing.T) {
	for _, w := range fewLoads() {
		if tried, join := impl.JoinTried(w), impl.JoinCost(w); tried != join || tried != joinBySets(w) {
			t.Fatalf("JoinTried(%v) = %d, JoinCost = %d, want %d", w, tried, join, joinBySets(w))
		}
	}
}

// Promise 64: beside each other costs no less.
func TestBesideEachOtherCostsNoLess(t *testing.T) {
	for _, w := range manyLoads() {
		cost := impl.BesideCost(w)
		if join := impl.JoinCost(w); cost < join {
			t.Fatalf("BesideCost(%v) = %d, JoinCost = %d", w, cost, join)
		}
		if turned := impl.BesideCost(otherWayRound(w)); turned != cost {
			t.Fatalf("BesideCost(%v) = %d, the other way round %d", w, cost, turned)
		}
		if len(w) == 0 {
			continue
		}
		if shorter := impl.BesideCost(w[:len(w)-1]); shorter < 0 || shorter > cost {
			t.Fatalf("BesideCost(%v) = %d, without the last load %d", w, cost, shorter)
		}
	}
}

// Promise 65: the least by parts is the least of all words.
func TestTheLeastByPartsIsTheLeastOfAllWords(t *testing.T) {
	for _, w := range manyLoads() {
		cost := impl.FindCost(w)
		if want := findByAllWords(w); cost != want {
			t.Fatalf("FindCost(%v) = %d, but of all words the least is %d", w, cost, want)
		}
		if len(w) <= impl.MaxTried && impl.FindTried(w) != cost {
			t.Fatalf("FindCost(%v) = %d, FindTried = %d", w, cost, impl.FindTried(w))
		}
		if turned := impl.FindCost(otherWayRound(w)); turned != cost {
			t.Fatalf("FindCost(%v) = %d, the other way round %d", w, cost, turned)
		}
	}
}

// Promise 66: no word costs less.
func TestNoWordCostsLess(t *testing.T) {
	for n := range impl.MaxLoads + 1 {
		for step := range 30 {
			w := mixedLoads(n, step)
			if step%3 == 0 && n > 0 {
				w[step%n] = 0
			}
			least := max(impl.FindCost(w), sumOf(w))
			for _, s := range wordsOfPairs()[n] {
				if got := impl.FindBy(w, s); got < least {
					t.Fatalf("FindBy(%v, %q) = %d, FindCost = %d, all loads %d", w, s, got, impl.FindCost(w), sumOf(w))
				}
			}
		}
	}
	for _, w := range fewLoads() {
		least := max(impl.FindCost(w), sumOf(w))
		for _, s := range impl.WordsOf(len(w)) {
			if got := impl.FindBy(w, s); got < least {
				t.Fatalf("FindBy(%v, %q) = %d, FindCost = %d, all loads %d", w, s, got, impl.FindCost(w), sumOf(w))
			}
		}
	}
}

// Promise 67: what is tried is the least by parts.
func TestWhatIsTriedIsTheLeastByParts(t *testing.T) {
	for _, w := range fewLoads() {
		if tried, cost := impl.FindTried(w), impl.FindCost(w); tried != cost || tried != findByAllWords(w) {
			t.Fatalf("FindTried(%v) = %d, FindCost = %d, want %d", w, tried, cost, findByAllWords(w))
		}
	}
}

// Promise 81: loads of twice as much cost twice as much.
func TestLoadsOfTwiceAsMuchCostTwiceAsMuch(t *testing.T) {
	for _, w := range manyLoads() {
		var doubled []int
		for _, load := range w {
			doubled = append(doubled, 2*load)
		}
		want := costs{2 * impl.JoinCost(w), 2 * impl.BesideCost(w), 2 * impl.FindCost(w)}
		if len(w) > 0 && slices.Max(doubled) > impl.MaxLoad {
			want = noCosts
		}
		checkCosts(t, doubled, want)
	}
}

// Promise 82: even loads cost by depths.
func TestEvenLoadsCostByDepths(t *testing.T) {
	for n, words := range wordsOfPairs() {
		w := slices.Repeat([]int{1}, n)
		least := math.MaxInt
		for _, s := range words {
			cost := impl.FindBy(w, s)
			if want := n + sumOf(armsTo(s)); cost != want {
				t.Fatalf("FindBy(%v, %q) = %d, want %d", w, s, cost, want)
			}
			least = min(least, cost)
		}
		if got := impl.FindCost(w); got != least {
			t.Errorf("FindCost(%v) = %d, but the least FindBy is %d", w, got, least)
		}
	}
}

// FindBy gives the load at its place in BetweenOf to each node.
func TestLoadsLieBetweenTheArms(t *testing.T) {
	for n, words := range wordsOfPairs() {
		w := mixedLoads(n, 2)
		for _, s := range words {
			arms, cost := armsTo(s), 0
			for place, node := range impl.BetweenOf(s) {
				cost += (1 + arms[node]) * w[place]
			}
			checkFindBy(t, w, s, cost)
		}
	}
}

func TestLoadsStayAsTheyAre(t *testing.T) {
	all := []int{9, 2, 7, 0, 20, 7, 1, 3, 5}
	before := slices.Clone(all)
	for length := range len(all) + 1 {
		w := all[:length]
		impl.ValidLoads(w)
		impl.JoinCost(w)
		impl.JoinTried(w)
		impl.BesideCost(w)
		impl.FindCost(w)
		impl.FindBy(w, nested(length))
		impl.FindTried(w)
	}
	if !slices.Equal(all, before) {
		t.Errorf("loads %v have become %v", before, all)
	}
}
