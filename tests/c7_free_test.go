package tests

import (
	"fmt"
	"math"
	"slices"
	"strings"
	"sync"
	"testing"

	"loop.example/shapesoftrees/impl"
)

// freeCases are trees whose centers, texts and maps were written down by hand.
var freeCases = []struct {
	n       int
	edges   [][]int
	centers []int
	text    string
	maps    int
}{
	{1, nil, []int{0}, "()", 1},
	{1, [][]int{}, []int{0}, "()", 1},
	{2, [][]int{{0, 1}}, []int{0, 1}, "(())", 2},
	{3, [][]int{{0, 1}, {0, 2}}, []int{0}, "(()())", 2},
	{3, [][]int{{0, 1}, {1, 2}}, []int{1}, "(()())", 2},
	{3, [][]int{{0, 2}, {1, 2}}, []int{2}, "(()())", 2},
	{4, [][]int{{0, 1}, {1, 2}, {2, 3}}, []int{1, 2}, "((())())", 2},
	{4, [][]int{{0, 3}, {1, 2}, {1, 3}}, []int{1, 3}, "((())())", 2},
	{4, [][]int{{0, 3}, {1, 3}, {2, 3}}, []int{3}, "(()()())", 6},
	{5, [][]int{{0, 1}, {1, 2}, {2, 3}, {3, 4}}, []int{2}, "((())(()))", 2},
	{5, [][]int{{0, 4}, {1, 3}, {1, 4}, {2, 3}}, []int{1}, "((())(()))", 2},
	// Two centers, whose texts differ, and of which either one has the lesser.
	{5, [][]int{{0, 1}, {1, 2}, {1, 3}, {3, 4}}, []int{1, 3}, "((()())())", 2},
	{5, [][]int{{0, 1}, {1, 3}, {2, 3}, {3, 4}}, []int{1, 3}, "((()())())", 2},
	{5, [][]int{{0, 1}, {0, 2}, {0, 3}, {0, 4}}, []int{0}, "(()()()())", 24},
	{6, [][]int{{0, 1}, {1, 2}, {2, 3}, {3, 4}, {4, 5}}, []int{2, 3}, "(((()))(()))", 2},
	// Two centers, with two nodes more beside each one.
	{6, [][]int{{0, 1}, {0, 2}, {0, 3}, {1, 4}, {1, 5}}, []int{0, 1}, "((()())()())", 8},
	{6, [][]int{{0, 3}, {1, 3}, {2, 3}, {3, 4}, {4, 5}}, []int{3, 4}, "((()()())())", 6},
	{7, [][]int{{0, 1}, {1, 2}, {2, 3}, {3, 4}, {4, 5}, {5, 6}}, []int{3}, "(((()))((())))", 2},
	{7, [][]int{{0, 6}, {1, 5}, {1, 6}, {2, 4}, {2, 5}, {3, 4}}, []int{5}, "(((()))((())))", 2},
	{7, [][]int{{0, 1}, {0, 2}, {1, 3}, {1, 4}, {2, 5}, {2, 6}}, []int{0}, "((()())(()()))", 8},
	// Three rows of two nodes around one.
	{7, [][]int{{0, 3}, {0, 6}, {1, 4}, {1, 6}, {2, 5}, {2, 6}}, []int{6}, "((())(())(()))", 6},
	// Rows of one, two and three nodes around one: it has no map but one.
	{7, [][]int{{0, 1}, {0, 2}, {0, 4}, {2, 3}, {4, 5}, {5, 6}}, []int{0, 4}, "(((())())(()))", 1},
	{7, [][]int{{0, 6}, {1, 6}, {2, 6}, {3, 6}, {4, 6}, {5, 6}}, []int{6}, "(()()()()()())", 720},
}

// rootsNotThere are numbers that are no node of any tree.
var rootsNotThere = []int{-1, -2, impl.MaxNodes, impl.MaxNodes + 1, 63, 64, 1000, math.MinInt, math.MaxInt}

// freeTree is a tree, the number of its shape, and how many maps it has.
type freeTree struct {
	n     int
	edges [][]int
	shape int
	maps  int
}

// freeTrees returns all trees of each number of nodes. Their shapes are found
// by moving the nodes of one tree of each shape in all ways, so no text is
// needed for them.
var freeTrees = sync.OnceValue(func() [][]freeTree {
	lists := [][]freeTree{nil}
	for n := 1; n <= impl.MaxNodes; n++ {
		lists = append(lists, shapedTrees(n))
	}
	return lists
})

// shapedTrees returns all trees of n nodes with their shapes.
func shapedTrees(n int) []freeTree {
	var list []freeTree
	met := map[int]freeTree{}
	shapes := 0
	orders := rowsInAnyOrder(n)
	for _, edges := range treesByTrying(n) {
		own := setOfEdges(edges)
		if _, ok := met[own]; !ok {
			maps := 0
			for _, order := range orders {
				if setOfEdges(movedEdges(edges, order)) == own {
					maps++
				}
			}
			for _, order := range orders {
				met[setOfEdges(movedEdges(edges, order))] = freeTree{shape: shapes, maps: maps}
			}
			shapes++
		}
		list = append(list, freeTree{n, edges, met[own].shape, met[own].maps})
	}
	return list
}

// everyTree returns all trees of up to MaxNodes nodes.
func everyTree() []freeTree {
	return slices.Concat(freeTrees()...)
}

// oneOfEach returns one tree of each shape of n nodes.
func oneOfEach(n int) []freeTree {
	var list []freeTree
	for _, tree := range freeTrees()[n] {
		if tree.shape == len(list) {
			list = append(list, tree)
		}
	}
	return list
}

// setOfEdges returns a number that tells sets of edges apart.
func setOfEdges(edges [][]int) int {
	set := 0
	for _, row := range edges {
		set |= 1 << (row[0]*impl.MaxNodes + row[1])
	}
	return set
}

// movedEdges returns edges whose nodes have other numbers, each one that at its
// place in an order.
func movedEdges(edges [][]int, order []int) [][]int {
	var moved [][]int
	for _, row := range edges {
		a, b := order[row[0]], order[row[1]]
		moved = append(moved, []int{min(a, b), max(a, b)})
	}
	slices.SortFunc(moved, slices.Compare)
	return moved
}

// factorial returns the product of all numbers up to one.
func factorial(n int) int {
	if n == 0 {
		return 1
	}
	return n * factorial(n-1)
}

// waysBetween returns, for each node, how many edges the way to each node has.
func waysBetween(n int, edges [][]int) [][]int {
	far := make([][]int, n)
	for a := range far {
		far[a] = slices.Repeat([]int{n}, n)
		far[a][a] = 0
	}
	for _, row := range edges {
		far[row[0]][row[1]], far[row[1]][row[0]] = 1, 1
	}
	for by := range n {
		for a := range n {
			for b := range n {
				far[a][b] = min(far[a][b], far[a][by]+far[by][b])
			}
		}
	}
	return far
}

// centersByWays returns what CentersOf should, by how far all nodes are from
// each other.
func centersByWays(n int, edges [][]int) []int {
	far := waysBetween(n, edges)
	slices.SortFunc(far, func(a, b []int) int { return slices.Max(a) - slices.Max(b) })
	var centers []int
	for _, ways := range far {
		if slices.Max(ways) == slices.Max(far[0]) {
			centers = append(centers, slices.Index(ways, 0))
		}
	}
	slices.Sort(centers)
	return centers
}

// textByLeaves returns what RootText should: nodes that have one edge left, but
// for the root, are closed one by one, and give their texts away over it.
func textByLeaves(n int, edges [][]int, root int) string {
	within := make([][]string, n)
	closed := func(node int) string {
		slices.Sort(within[node])
		return "(" + strings.Join(within[node], "") + ")"
	}
	for left := copyRows(edges); len(left) > 0; {
		ends := slices.Sorted(slices.Values(slices.Concat(left...)))
		place := slices.IndexFunc(left, func(row []int) bool { return isLeaf(row[0], root, ends) || isLeaf(row[1], root, ends) })
		leaf, next := left[place][0], left[place][1]
		if !isLeaf(leaf, root, ends) {
			leaf, next = next, leaf
		}
		within[next] = append(within[next], closed(leaf))
		left = slices.Delete(left, place, place+1)
	}
	return closed(root)
}

// isLeaf reports whether a node is not the root, and is just once among the
// ends of edges.
func isLeaf(node int, root int, ends []int) bool {
	first := slices.Index(ends, node)
	return node != root && (first == len(ends)-1 || ends[first+1] != node)
}

// textByCenters returns what FreeText should.
func textByCenters(n int, edges [][]int) string {
	var texts []string
	for _, center := range centersByWays(n, edges) {
		texts = append(texts, textByLeaves(n, edges, center))
	}
	return slices.Min(texts)
}

func TestFreeCases(t *testing.T) {
	for _, c := range freeCases {
		if got := impl.CentersOf(c.n, c.edges); !slices.Equal(got, c.centers) {
			t.Errorf("CentersOf(%d, %v) = %v, want %v", c.n, c.edges, got, c.centers)
		}
		if got := impl.FreeText(c.n, c.edges); got != c.text {
			t.Errorf("FreeText(%d, %v) = %q, want %q", c.n, c.edges, got, c.text)
		}
		if maps, tried := impl.SelfMaps(c.n, c.edges), impl.SelfMapsTried(c.n, c.edges); maps != c.maps || tried != c.maps {
			t.Errorf("SelfMaps(%d, %v) = %d, SelfMapsTried = %d, want %d", c.n, c.edges, maps, tried, c.maps)
		}
		for _, d := range freeCases {
			if got, want := impl.SameShape(c.n, c.edges, d.edges), c.text == d.text; got != want {
				t.Errorf("SameShape(%d, %v, %v) = %v", c.n, c.edges, d.edges, got)
			}
		}
	}
}

func TestRootText(t *testing.T) {
	// One, two and three nodes in a row beside the node 0.
	spider := [][]int{{0, 1}, {0, 2}, {0, 4}, {2, 3}, {4, 5}, {5, 6}}
	want := []string{
		"(((()))(())())", "((((()))(())))", "((((()))())())", "(((((()))())))", "(((())())(()))", "((((())()))())", "(((((())()))))",
	}
	for root, text := range want {
		if got := impl.RootText(7, spider, root); got != text {
			t.Errorf("RootText(7, %v, %d) = %q, want %q", spider, root, got, text)
		}
	}
	for _, tree := range everyTree() {
		for root := range tree.n {
			if got, text := impl.RootText(tree.n, tree.edges, root), textByLeaves(tree.n, tree.edges, root); got != text {
				t.Fatalf("RootText(%d, %v, %d) = %q, want %q", tree.n, tree.edges, root, got, text)
			}
		}
	}
}

func TestRootTextOfNoRoot(t *testing.T) {
	for _, c := range freeCases {
		for _, root := range append([]int{c.n, c.n + 1}, rootsNotThere...) {
			if got := impl.RootText(c.n, c.edges, root); got != "" {
				t.Errorf("RootText(%d, %v, %d) = %q", c.n, c.edges, root, got)
			}
		}
	}
}

func TestCentersOfAndFreeText(t *testing.T) {
	for _, tree := range everyTree() {
		if got, want := impl.CentersOf(tree.n, tree.edges), centersByWays(tree.n, tree.edges); !slices.Equal(got, want) {
			t.Fatalf("CentersOf(%d, %v) = %v, want %v", tree.n, tree.edges, got, want)
		}
		if got, want := impl.FreeText(tree.n, tree.edges), textByCenters(tree.n, tree.edges); got != want {
			t.Fatalf("FreeText(%d, %v) = %q, want %q", tree.n, tree.edges, got, want)
		}
	}
}

func TestSelfMapsAreAllMaps(t *testing.T) {
	for _, tree := range everyTree() {
		if maps, tried := impl.SelfMaps(tree.n, tree.edges), impl.SelfMapsTried(tree.n, tree.edges); maps != tree.maps || tried != tree.maps {
			t.Fatalf("SelfMaps(%d, %v) = %d, SelfMapsTried = %d, want %d", tree.n, tree.edges, maps, tried, tree.maps)
		}
	}
}

func TestSameShapeOfAllTrees(t *testing.T) {
	for n := 1; n <= impl.MaxNodes; n++ {
		// Of most nodes there are too many trees to hold each one against all.
		others := freeTrees()[n]
		if n > 5 {
			others = oneOfEach(n)
		}
		for _, a := range freeTrees()[n] {
			for _, b := range others {
				one, other := impl.SameShape(n, a.edges, b.edges), impl.SameShape(n, b.edges, a.edges)
				if want := a.shape == b.shape; one != want || other != want {
					t.Fatalf("SameShape(%d, %v, %v) = %v, the other way round %v", n, a.edges, b.edges, one, other)
				}
			}
		}
	}
}

func TestTreesWithOtherNumbers(t *testing.T) {
	for n := 1; n <= impl.MaxNodes; n++ {
		for _, tree := range oneOfEach(n) {
			for _, order := range rowsInAnyOrder(n) {
				checkMoved(t, tree, order)
			}
		}
	}
}

// checkMoved checks that a tree is the same but for the numbers of its nodes
// when these are others.
func checkMoved(t *testing.T, tree freeTree, order []int) {
	t.Helper()
	n, edges := tree.n, tree.edges
	moved := movedEdges(edges, order)
	var centers []int
	for _, center := range impl.CentersOf(n, edges) {
		centers = append(centers, order[center])
	}
	slices.Sort(centers)
	if got := impl.CentersOf(n, moved); !slices.Equal(got, centers) {
		t.Fatalf("CentersOf(%d, %v) = %v, want %v", n, moved, got, centers)
	}
	if got, want := impl.RootText(n, moved, order[0]), impl.RootText(n, edges, 0); got != want {
		t.Fatalf("RootText(%d, %v, %d) = %q, want %q", n, moved, order[0], got, want)
	}
	if !impl.SameShape(n, edges, moved) || impl.FreeText(n, edges) != impl.FreeText(n, moved) {
		t.Fatalf("FreeText(%d, %v) = %q, but of %v it is %q", n, edges, impl.FreeText(n, edges), moved, impl.FreeText(n, moved))
	}
}

func TestNoFreeTrees(t *testing.T) {
	for _, c := range noTrees {
		if got := impl.CentersOf(c.n, c.edges); got != nil {
			t.Errorf("CentersOf(%d, %v) = %v", c.n, c.edges, got)
		}
		for _, root := range append([]int{0, 1, c.n - 1, c.n}, rootsNotThere...) {
			if got := impl.RootText(c.n, c.edges, root); got != "" {
				t.Errorf("RootText(%d, %v, %d) = %q", c.n, c.edges, root, got)
			}
		}
		if got := impl.FreeText(c.n, c.edges); got != "" {
			t.Errorf("FreeText(%d, %v) = %q", c.n, c.edges, got)
		}
		if maps, tried := impl.SelfMaps(c.n, c.edges), impl.SelfMapsTried(c.n, c.edges); maps != -1 || tried != -1 {
			t.Errorf("SelfMaps(%d, %v) = %d, SelfMapsTried = %d", c.n, c.edges, maps, tried)
		}
	}
}

func TestSameShapeOfNoTrees(t *testing.T) {
	for _, c := range noTrees {
		if impl.SameShape(c.n, c.edges, c.edges) {
			t.Errorf("SameShape(%d, %v) of no tree and itself", c.n, c.edges)
		}
		for _, tree := range freeCases {
			for _, n := range []int{c.n, tree.n} {
				// What is no tree of its own number of nodes may be one of another.
				if impl.ValidTree(n, c.edges) && impl.ValidTree(n, tree.edges) {
					continue
				}
				if impl.SameShape(n, c.edges, tree.edges) || impl.SameShape(n, tree.edges, c.edges) {
					t.Errorf("SameShape(%d, %v, %v)", n, c.edges, tree.edges)
				}
			}
		}
	}
}

func TestSameShapeOfRowsOfOtherLengths(t *testing.T) {
	for n := 1; n <= impl.MaxNodes+2; n++ {
		longer := rowEdges(n + 1)
		for _, count := range []int{n, n + 1} {
			if impl.SameShape(count, rowEdges(n), longer) || impl.SameShape(count, longer, rowEdges(n)) {
				t.Errorf("SameShape(%d, ..) of rows of %d and of %d nodes", count, n, n+1)
			}
		}
		if got, want := impl.SameShape(n, rowEdges(n), rowEdges(n)), n <= impl.MaxNodes; got != want {
			t.Errorf("SameShape(%d, ..) of a row and itself = %v", n, got)
		}
	}
}

func TestShapesOf(t *testing.T) {
	if impl.MaxShapes != 5 {
		t.Errorf("MaxShapes = %d, want 5", impl.MaxShapes)
	}
	want := [][]string{
		nil, {"()"}, {"(())"}, {"(()())"}, {"((())())", "(()()())"}, {"((()())())", "((())(()))", "(()()()())"},
	}
	for n := 1; n <= impl.MaxShapes; n++ {
		if got := impl.ShapesOf(n); !slices.Equal(got, want[n]) {
			t.Errorf("ShapesOf(%d) = %q, want %q", n, got, want[n])
		}
		var texts []string
		for _, tree := range freeTrees()[n] {
			texts = append(texts, textByCenters(n, tree.edges))
		}
		slices.Sort(texts)
		if texts = slices.Compact(texts); !slices.Equal(texts, want[n]) {
			t.Errorf("of all trees of %d nodes, the texts are %q, want %q", n, texts, want[n])
		}
	}
	for _, n := range []int{0, -1, -2, impl.MaxShapes + 1, impl.MaxNodes, impl.MaxNodes + 1, 100, math.MinInt, math.MinInt + 1, math.MaxInt} {
		if got := impl.ShapesOf(n); len(got) != 0 {
			t.Errorf("ShapesOf(%d) = %q", n, got)
		}
	}
}

func TestFreeStars(t *testing.T) {
	for n := 3; n <= impl.MaxNodes; n++ {
		for center := range n {
			star := starEdges(n, center)
			if got := impl.CentersOf(n, star); !slices.Equal(got, []int{center}) {
				t.Errorf("CentersOf(%d, %v) = %v", n, star, got)
			}
			if got := impl.FreeText(n, star); got != "("+beside(n-1)+")" {
				t.Errorf("FreeText(%d, %v) = %q", n, star, got)
			}
			for root := range n {
				if got := impl.RootText(n, star, root); root != center && got != "(("+beside(n-2)+"))" {
					t.Errorf("RootText(%d, %v, %d) = %q", n, star, root, got)
				}
			}
			if maps, tried := impl.SelfMaps(n, star), impl.SelfMapsTried(n, star); maps != factorial(n-1) || tried != maps {
				t.Errorf("SelfMaps(%d, %v) = %d, SelfMapsTried = %d", n, star, maps, tried)
			}
		}
	}
}

func TestFreeRows(t *testing.T) {
	for n := 1; n <= impl.MaxNodes; n++ {
		row := rowEdges(n)
		centers := slices.Compact([]int{(n - 1) / 2, n / 2})
		if got := impl.CentersOf(n, row); !slices.Equal(got, centers) {
			t.Errorf("CentersOf(%d, %v) = %v, want %v", n, row, got, centers)
		}
		for root := range n {
			longer, shorter := nested(max(root, n-1-root)), nested(min(root, n-1-root))
			if got := impl.RootText(n, row, root); got != "("+longer+shorter+")" {
				t.Errorf("RootText(%d, %v, %d) = %q", n, row, root, got)
			}
		}
		if maps, tried := impl.SelfMaps(n, row), impl.SelfMapsTried(n, row); maps != min(n, 2) || tried != maps {
			t.Errorf("SelfMaps(%d, %v) = %d, SelfMapsTried = %d", n, row, maps, tried)
		}
	}
}

// Promise 34: there are one or two centers.
func TestThereAreOneOrTwoCenters(t *testing.T) {
	for _, tree := range everyTree() {
		centers := impl.CentersOf(tree.n, tree.edges)
		one := len(centers) == 1 && centers[0] >= 0 && centers[0] < tree.n
		two := slices.ContainsFunc(tree.edges, func(row []int) bool { return slices.Equal(row, centers) })
		if !one && !two {
			t.Fatalf("CentersOf(%d, %v) = %v", tree.n, tree.edges, centers)
		}
	}
}

// Promise 35: texts are words of all nodes.
func TestTextsAreWordsOfAllNodes(t *testing.T) {
	for _, tree := range everyTree() {
		for root := range tree.n {
			text := impl.RootText(tree.n, tree.edges, root)
			if !impl.ValidWord(text) || len(text) != 2*tree.n {
				t.Fatalf("RootText(%d, %v, %d) = %q, which is no word of %d pairs", tree.n, tree.edges, root, text, tree.n)
			}
			if _, behind := cutWord(text); behind != "" {
				t.Fatalf("RootText(%d, %v, %d) = %q, with %q behind its first pair", tree.n, tree.edges, root, text, behind)
			}
		}
	}
}

// Promise 36: texts are seen from centers.
func TestTextsAreSeenFromCenters(t *testing.T) {
	for _, tree := range everyTree() {
		var texts []string
		for _, center := range impl.CentersOf(tree.n, tree.edges) {
			texts = append(texts, impl.RootText(tree.n, tree.edges, center))
		}
		if got := impl.FreeText(tree.n, tree.edges); got != slices.Min(texts) {
			t.Fatalf("FreeText(%d, %v) = %q, but from its centers it has %q", tree.n, tree.edges, got, texts)
		}
	}
}

// Promise 38: maps by texts are maps that are tried.
func TestMapsByTextsAreMapsThatAreTried(t *testing.T) {
	for _, tree := range everyTree() {
		maps, tried := impl.SelfMaps(tree.n, tree.edges), impl.SelfMapsTried(tree.n, tree.edges)
		if maps < 1 || maps != tried || factorial(tree.n)%maps != 0 {
			t.Fatalf("SelfMaps(%d, %v) = %d, SelfMapsTried = %d", tree.n, tree.edges, maps, tried)
		}
	}
}

// Promise 39: one map is always there.
func TestOneMapIsAlwaysThere(t *testing.T) {
	for _, tree := range everyTree() {
		maps, tried := impl.SelfMaps(tree.n, tree.edges), impl.SelfMapsTried(tree.n, tree.edges)
		if tried < 1 || tried != maps {
			t.Fatalf("SelfMapsTried(%d, %v) = %d, SelfMaps = %d", tree.n, tree.edges, tried, maps)
		}
	}
}

// Promise 40: shapes are counted by maps. Of more than MaxShapes nodes the
// shapes are not listed, but known to be so many.
func TestShapesAreCountedByMaps(t *testing.T) {
	for n, known := range []int{0, 1, 1, 1, 2, 3, 6, 11} {
		shapes := known
		if n <= impl.MaxShapes {
			shapes = len(impl.ShapesOf(n))
		}
		together := 0
		for _, tree := range freeTrees()[n] {
			together += impl.SelfMaps(n, tree.edges)
		}
		if shapes != known || together != shapes*factorial(n) {
			t.Errorf("of %d nodes there are %d shapes, want %d, and SelfMaps of all trees are together %d", n, shapes, known, together)
		}
	}
}

// Promise 73: trees seen from a node are words.
func TestTreesSeenFromANodeAreWords(t *testing.T) {
	if got := impl.LeavesOf(impl.RootText(1, nil, 0)); got != 1 {
		t.Errorf("LeavesOf RootText one node = %d", got)
	}
	for n := 2; n <= impl.MaxNodes; n++ {
		for _, tree := range freeTrees()[n] {
			degrees := impl.DegreesOf(n, tree.edges)
			for root := range n {
				leaves := 0
				for node, degree := range degrees {
					if node != root && degree == 1 {
						leaves++
					}
				}
				text := impl.RootText(n, tree.edges, root)
				if got := impl.LeavesOf(text); got != leaves {
					t.Fatalf("RootText(%d, %v, %d) = %q, with %d leaves, want %d", n, tree.edges, root, text, got, leaves)
				}
			}
		}
	}
}

// Promise 78: shapes have few trees.
func TestShapesHaveFewTrees(t *testing.T) {
	for n := 1; n <= impl.MaxNodes; n++ {
		trees := map[string]int{}
		for _, tree := range freeTrees()[n] {
			trees[impl.FreeText(n, tree.edges)]++
		}
		for _, tree := range freeTrees()[n] {
			text, maps := impl.FreeText(n, tree.edges), impl.SelfMaps(n, tree.edges)
			if trees[text] != factorial(n)/maps {
				t.Fatalf("%d trees have the text %q, but SelfMaps(%d, %v) = %d", trees[text], text, n, tree.edges, maps)
			}
		}
	}
}

func TestFreeResultsAreNew(t *testing.T) {
	for _, c := range freeCases {
		centers := impl.CentersOf(c.n, c.edges)
		clear(centers[:cap(centers)])
	}
	for n := range impl.MaxShapes + 1 {
		shapes := impl.ShapesOf(n)
		clear(shapes[:cap(shapes)])
	}
	TestFreeCases(t)
	TestShapesOf(t)
}

func TestFreeArgumentsStayAsTheyAre(t *testing.T) {
	all := [][]int{{0, 1, 9}, {0, 2, 9}, {2, 3, 9}, {8, 9}}
	edges := firstTwos(all)
	before := fmt.Sprint(all, edges)
	for length := range edges {
		for n := range 6 {
			clear(impl.CentersOf(n, edges[:length]))
			impl.RootText(n, edges[:length], 1)
			impl.FreeText(n, edges[:length])
			impl.SameShape(n, edges[:length], edges[:length])
			impl.SelfMaps(n, edges[:length])
			impl.SelfMapsTried(n, edges[:length])
		}
	}
	if after := fmt.Sprint(all, edges); after != before {
		t.Errorf("edges %s have become %s", before, after)
	}
}
