package tests

import (
	"fmt"
	"math/bits"
	"slices"
	"testing"

	"loop.example/shapesoftrees/impl"
)

// weights are what the functions of the chapter return of one tree.
type weights struct {
	alone, sets, pairs, watch, ways, byEdges int
}

// noWeights is what they return of what is no tree.
var noWeights = weights{-1, -1, -1, -1, -1, -1}

// weighCases are trees whose weights were written down by hand.
var weighCases = []struct {
	n       int
	edges   [][]int
	weights weights
}{
	{1, nil, weights{1, 2, 0, 1, 0, 0}},
	{1, [][]int{}, weights{1, 2, 0, 1, 0, 0}},
	{2, [][]int{{0, 1}}, weights{1, 3, 1, 1, 1, 1}},
	{3, [][]int{{0, 1}, {0, 2}}, weights{2, 5, 1, 1, 4, 4}},
	{3, [][]int{{0, 1}, {1, 2}}, weights{2, 5, 1, 1, 4, 4}},
	{3, [][]int{{0, 2}, {1, 2}}, weights{2, 5, 1, 1, 4, 4}},
	{4, [][]int{{0, 1}, {1, 2}, {2, 3}}, weights{2, 8, 2, 2, 10, 10}},
	{4, [][]int{{0, 3}, {1, 2}, {1, 3}}, weights{2, 8, 2, 2, 10, 10}},
	{4, [][]int{{0, 1}, {0, 2}, {0, 3}}, weights{3, 9, 1, 1, 9, 9}},
	{4, [][]int{{0, 3}, {1, 3}, {2, 3}}, weights{3, 9, 1, 1, 9, 9}},
	{5, [][]int{{0, 1}, {1, 2}, {2, 3}, {3, 4}}, weights{3, 13, 2, 2, 20, 20}},
	{5, [][]int{{0, 1}, {1, 2}, {1, 3}, {3, 4}}, weights{3, 14, 2, 2, 18, 18}},
	{5, [][]int{{0, 2}, {1, 2}, {2, 3}, {2, 4}}, weights{4, 17, 1, 1, 16, 16}},
	{6, [][]int{{0, 1}, {1, 2}, {2, 3}, {3, 4}, {4, 5}}, weights{3, 21, 3, 2, 35, 35}},
	// Two nodes beside each other, with two nodes more beside each one.
	{6, [][]int{{0, 1}, {0, 2}, {0, 3}, {1, 4}, {1, 5}}, weights{4, 24, 2, 2, 29, 29}},
	{7, [][]int{{0, 1}, {1, 2}, {2, 3}, {3, 4}, {4, 5}, {5, 6}}, weights{4, 34, 3, 3, 56, 56}},
	{7, [][]int{{0, 1}, {0, 2}, {1, 3}, {1, 4}, {2, 5}, {2, 6}}, weights{5, 41, 2, 2, 48, 48}},
	// Three rows of two nodes around one.
	{7, [][]int{{0, 3}, {0, 6}, {1, 4}, {1, 6}, {2, 5}, {2, 6}}, weights{4, 35, 3, 3, 48, 48}},
	// Rows of one, two and three nodes around one.
	{7, [][]int{{0, 1}, {0, 2}, {0, 4}, {2, 3}, {4, 5}, {5, 6}}, weights{4, 36, 3, 3, 50, 50}},
	{7, [][]int{{0, 6}, {1, 6}, {2, 6}, {3, 6}, {4, 6}, {5, 6}}, weights{6, 65, 1, 1, 36, 36}},
}

// weightsOf returns what the functions of the chapter return.
func weightsOf(n int, edges [][]int) weights {
	return weights{
		impl.MostAlone(n, edges), impl.CountAlone(n, edges), impl.MostPairs(n, edges),
		impl.LeastWatch(n, edges), impl.WaysOf(n, edges), impl.WaysByEdges(n, edges),
	}
}

// checkWeights compares what the functions of the chapter return.
func checkWeights(t *testing.T, n int, edges [][]int, want weights) {
	t.Helper()
	if got := weightsOf(n, edges); got != want {
		t.Fatalf("weights of %d nodes and %v = %+v, want %+v", n, edges, got, want)
	}
}

// besideSets returns, for each node of a tree, the set of the nodes beside it.
func besideSets(n int, edges [][]int) []int {
	sets := make([]int, n)
	for _, row := range edges {
		sets[row[0]] |= 1 << row[1]
		sets[row[1]] |= 1 << row[0]
	}
	return sets
}

// setsAlone returns all sets of nodes that have no edge within.
func setsAlone(n int, edges [][]int) []int {
	beside := besideSets(n, edges)
	var sets []int
	for set := range 1 << n {
		near := 0
		for node := range n {
			if set>>node&1 == 1 {
				near |= beside[node]
			}
		}
		if set&near == 0 {
			sets = append(sets, set)
		}
	}
	return sets
}

// sizeOfGreatest returns how many there are in the greatest set.
func sizeOfGreatest(sets []int) int {
	size := 0
	for _, set := range sets {
		size = max(size, bits.OnesCount(uint(set)))
	}
	return size
}

// setsOfPairs returns all sets of edges no two of which have a common node.
func setsOfPairs(edges [][]int) []int {
	var sets []int
	for set := range 1 << len(edges) {
		nodes := slices.Concat(edgesIn(set, edges)...)
		slices.Sort(nodes)
		if len(slices.Compact(nodes)) == 2*bits.OnesCount(uint(set)) {
			sets = append(sets, set)
		}
	}
	return sets
}

// leastWatchByTrying returns what LeastWatch should, by trying all sets.
func leastWatchByTrying(n int, edges [][]int) int {
	beside := besideSets(n, edges)
	least := n
	for set := range 1 << n {
		seen := set
		for node := range n {
			if set>>node&1 == 1 {
				seen |= beside[node]
			}
		}
		if seen == 1<<n-1 {
			least = min(least, bits.OnesCount(uint(set)))
		}
	}
	return least
}

// weightsByTrying returns what the functions of the chapter should.
func weightsByTrying(n int, edges [][]int) weights {
	alone := setsAlone(n, edges)
	ways := sumOf(slices.Concat(waysBetween(n, edges)...)) / 2
	return weights{
		sizeOfGreatest(alone), len(alone), sizeOfGreatest(setsOfPairs(edges)), leastWatchByTrying(n, edges), ways, ways,
	}
}

// greatestDegree returns how many edges a node of a tree has at most.
func greatestDegree(n int, edges [][]int) int {
	return slices.Max(impl.DegreesOf(n, edges))
}

func TestWeighCases(t *testing.T) {
	for _, c := range weighCases {
		checkWeights(t, c.n, c.edges, c.weights)
		for _, n := range []int{c.n - 1, c.n + 1} {
			checkWeights(t, n, c.edges, noWeights)
		}
	}
}

func TestWeightsOfAllTrees(t *testing.T) {
	for _, tree := range everyTree() {
		checkWeights(t, tree.n, tree.edges, weightsByTrying(tree.n, tree.edges))
	}
}

func TestWeightsOfStars(t *testing.T) {
	checkWeights(t, 1, starEdges(1, 0), weights{1, 2, 0, 1, 0, 0})
	for n := 2; n <= impl.MaxNodes; n++ {
		ways := (n - 1) * (n - 1)
		for center := range n {
			checkWeights(t, n, starEdges(n, center), weights{n - 1, 1<<(n-1) + 1, 1, 1, ways, ways})
		}
	}
	checkWeights(t, impl.MaxNodes+1, starEdges(impl.MaxNodes+1, 0), noWeights)
}

func TestWeightsOfRows(t *testing.T) {
	sets, next := 2, 3
	for n := 1; n <= impl.MaxNodes; n++ {
		ways := (n - 1) * n * (n + 1) / 6
		checkWeights(t, n, rowEdges(n), weights{(n + 1) / 2, sets, n / 2, (n + 2) / 3, ways, ways})
		sets, next = next, sets+next
	}
	checkWeights(t, impl.MaxNodes+1, rowEdges(impl.MaxNodes+1), noWeights)
}

func TestWeightsOfNoTrees(t *testing.T) {
	for _, c := range noTrees {
		checkWeights(t, c.n, c.edges, noWeights)
	}
}

func TestWeightsOfChangedTrees(t *testing.T) {
	for _, c := range weighCases {
		for i := range c.edges {
			turned, long, short, twice := copyRows(c.edges), copyRows(c.edges), copyRows(c.edges), copyRows(c.edges)
			slices.Reverse(turned[i])
			long[i] = append(long[i], 0)
			short[i] = short[i][:1]
			// A tree of three nodes and more has another edge, to be there twice.
			twice[i] = twice[(i+1)%len(twice)]
			loop, low, high := copyRows(c.edges), copyRows(c.edges), copyRows(c.edges)
			loop[i][0] = loop[i][1]
			low[i][0] = -1
			high[i][1] = c.n
			less, more := slices.Delete(copyRows(c.edges), i, i+1), slices.Insert(copyRows(c.edges), i, c.edges[i])
			for _, edges := range [][][]int{turned, long, short, loop, low, high, less, more} {
				checkWeights(t, c.n, edges, noWeights)
			}
			if len(twice) > 1 {
				checkWeights(t, c.n, twice, noWeights)
			}
		}
	}
}

// Promise 37: the same shape has the same numbers. Which trees have the same
// shape is found by moving their nodes.
func TestTheSameShapeHasTheSameNumbers(t *testing.T) {
	for n := 1; n <= impl.MaxNodes; n++ {
		firsts := oneOfEach(n)
		for _, tree := range freeTrees()[n] {
			for _, other := range []freeTree{firsts[tree.shape], firsts[(tree.shape+1)%len(firsts)]} {
				same, back := impl.SameShape(n, tree.edges, other.edges), impl.SameShape(n, other.edges, tree.edges)
				if want := tree.shape == other.shape; same != want || back != want {
					t.Fatalf("SameShape(%d, %v, %v) = %v, the other way round %v", n, tree.edges, other.edges, same, back)
				}
				if same {
					checkSameNumbers(t, n, tree.edges, other.edges)
				}
			}
		}
	}
}

// checkSameNumbers checks that two trees have as many maps, ways as long, and
// the same degrees.
func checkSameNumbers(t *testing.T, n int, a [][]int, b [][]int) {
	t.Helper()
	if one, other := impl.SelfMaps(n, a), impl.SelfMaps(n, b); one != other {
		t.Fatalf("SelfMaps(%d, %v) = %d, but of %v it is %d", n, a, one, b, other)
	}
	if one, other := impl.WaysOf(n, a), impl.WaysOf(n, b); one != other {
		t.Fatalf("WaysOf(%d, %v) = %d, but of %v it is %d", n, a, one, b, other)
	}
	if one, other := ascending(impl.DegreesOf(n, a)), ascending(impl.DegreesOf(n, b)); !slices.Equal(one, other) {
		t.Fatalf("the degrees of %d nodes and %v are %v, but of %v they are %v", n, a, one, b, other)
	}
}

// Promise 55: alone or paired.
func TestAloneOrPaired(t *testing.T) {
	for _, tree := range everyTree() {
		alone, pairs := impl.MostAlone(tree.n, tree.edges), impl.MostPairs(tree.n, tree.edges)
		if alone+pairs != tree.n {
			t.Fatalf("MostAlone(%d, %v) = %d, MostPairs = %d", tree.n, tree.edges, alone, pairs)
		}
	}
}

// Promise 56: sets are counted one by one.
func TestSetsAreCountedOneByOne(t *testing.T) {
	for _, tree := range everyTree() {
		sets := setsAlone(tree.n, tree.edges)
		if got := impl.CountAlone(tree.n, tree.edges); got != len(sets) {
			t.Fatalf("CountAlone(%d, %v) = %d, want %d", tree.n, tree.edges, got, len(sets))
		}
		if got, want := impl.MostAlone(tree.n, tree.edges), sizeOfGreatest(sets); got != want {
			t.Fatalf("MostAlone(%d, %v) = %d, want %d", tree.n, tree.edges, got, want)
		}
	}
}

// Promise 57: pairs are found one by one.
func TestPairsAreFoundOneByOne(t *testing.T) {
	for _, tree := range everyTree() {
		want := sizeOfGreatest(setsOfPairs(tree.edges))
		if got := impl.MostPairs(tree.n, tree.edges); got != want {
			t.Fatalf("MostPairs(%d, %v) = %d, want %d", tree.n, tree.edges, got, want)
		}
	}
}

// Promise 58: watchers are no more than pairs. One node has no pair, but its
// watcher.
func TestWatchersAreNoMoreThanPairs(t *testing.T) {
	for _, tree := range everyTree() {
		watch, pairs := impl.LeastWatch(tree.n, tree.edges), impl.MostPairs(tree.n, tree.edges)
		if tree.n >= 2 && watch > pairs {
			t.Fatalf("LeastWatch(%d, %v) = %d, MostPairs = %d", tree.n, tree.edges, watch, pairs)
		}
		if watch*(1+greatestDegree(tree.n, tree.edges)) < tree.n {
			t.Fatalf("LeastWatch(%d, %v) = %d, with degrees of at most %d", tree.n, tree.edges, watch, greatestDegree(tree.n, tree.edges))
		}
	}
}

// Promise 59: ways are counted by edges.
func TestWaysAreCountedByEdges(t *testing.T) {
	for _, tree := range everyTree() {
		ways, byEdges := impl.WaysOf(tree.n, tree.edges), impl.WaysByEdges(tree.n, tree.edges)
		star, row := impl.WaysOf(tree.n, starEdges(tree.n, 0)), impl.WaysOf(tree.n, rowEdges(tree.n))
		if ways != byEdges || ways < star || ways > row {
			t.Fatalf("WaysOf(%d, %v) = %d, WaysByEdges = %d, of a star %d, of a row %d", tree.n, tree.edges, ways, byEdges, star, row)
		}
	}
}

// Promise 60: ways by edges are ways. How far nodes are from each other is
// found without edges, too.
func TestWaysByEdgesAreWays(t *testing.T) {
	for _, tree := range everyTree() {
		byEdges, ways := impl.WaysByEdges(tree.n, tree.edges), impl.WaysOf(tree.n, tree.edges)
		want := sumOf(slices.Concat(waysBetween(tree.n, tree.edges)...)) / 2
		if byEdges != ways || ways != want {
			t.Fatalf("WaysByEdges(%d, %v) = %d, WaysOf = %d, want %d", tree.n, tree.edges, byEdges, ways, want)
		}
	}
}

// Promise 76: stars have one number.
func TestStarsHaveOneNumber(t *testing.T) {
	for n := 3; n <= impl.MaxNodes; n++ {
		for center := range n {
			star, code := starEdges(n, center), slices.Repeat([]int{center}, n-2)
			if got := impl.CodeOf(n, star); !slices.Equal(got, code) {
				t.Errorf("CodeOf(%d, %v) = %v, want %v", n, star, got, code)
			}
			if got := impl.TreeOf(n, code); !sameRows(got, star) {
				t.Errorf("TreeOf(%d, %v) = %v, want %v", n, code, got, star)
			}
			if got := impl.CentersOf(n, star); !slices.Equal(got, []int{center}) {
				t.Errorf("CentersOf(%d, %v) = %v, want %d", n, star, got, center)
			}
		}
	}
}

// Promise 77: rows are widest.
func TestRowsAreWidest(t *testing.T) {
	for n := 1; n <= impl.MaxNodes; n++ {
		var code []int
		for node := 1; node < n-1; node++ {
			code = append(code, node)
		}
		row := impl.TreeOf(n, code)
		if !sameRows(row, rowEdges(n)) {
			t.Errorf("TreeOf(%d, %v) = %v, which is no row", n, code, row)
		}
		if got := impl.MostPairs(n, row); got != n/2 {
			t.Errorf("MostPairs(%d, %v) = %d, want %d", n, row, got, n/2)
		}
		widest := impl.WaysOf(n, row)
		for _, tree := range freeTrees()[n] {
			if got := impl.WaysOf(n, tree.edges); got > widest {
				t.Fatalf("WaysOf(%d, %v) = %d, but of a row %d", n, tree.edges, got, widest)
			}
		}
	}
}

// Promise 85: rows have the fewest sets.
func TestRowsHaveTheFewestSets(t *testing.T) {
	for n := 1; n <= impl.MaxNodes; n++ {
		fewest := impl.CountAlone(n, rowEdges(n))
		want := n + 1
		if n > 2 {
			want = impl.CountAlone(n-1, rowEdges(n-1)) + impl.CountAlone(n-2, rowEdges(n-2))
		}
		if fewest != want {
			t.Errorf("CountAlone(%d, %v) = %d, want %d", n, rowEdges(n), fewest, want)
		}
		for _, tree := range freeTrees()[n] {
			if got := impl.CountAlone(n, tree.edges); got < fewest {
				t.Fatalf("CountAlone(%d, %v) = %d, but of a row %d", n, tree.edges, got, fewest)
			}
		}
	}
}

// Promise 86: centers lie in the middle.
func TestCentersLieInTheMiddle(t *testing.T) {
	for _, tree := range everyTree() {
		far := waysBetween(tree.n, tree.edges)
		longest := slices.Max(slices.Concat(far...))
		centers := impl.CentersOf(tree.n, tree.edges)
		if len(centers) == 0 {
			t.Fatalf("CentersOf(%d, %v) is none", tree.n, tree.edges)
		}
		for _, center := range centers {
			if got := slices.Max(far[center]); got > (longest+1)/2 {
				t.Fatalf("CentersOf(%d, %v) has %d, from which a node is %d edges far, with ways of at most %d", tree.n, tree.edges, center, got, longest)
			}
		}
	}
}

func TestWeighedTreesStayAsTheyAre(t *testing.T) {
	all := [][]int{{0, 1, 9}, {0, 2, 9}, {2, 3, 9}, {8, 9}}
	edges := firstTwos(all)
	before := fmt.Sprint(all, edges)
	for length := range edges {
		for n := range 6 {
			weightsOf(n, edges[:length])
		}
	}
	if after := fmt.Sprint(all, edges); after != before {
		t.Errorf("edges %s have become %s", before, after)
	}
}
