package tests

import (
	"fmt"
	"math"
	"slices"
	"testing"

	"loop.example/shapesoftrees/impl"
)

// treeCase is a tree of n nodes, with its degrees and its code.
type treeCase struct {
	n       int
	edges   [][]int
	degrees []int
	code    []int
}

// treeCases are trees whose codes were written down by hand.
var treeCases = []treeCase{
	{1, nil, []int{0}, nil},
	{1, [][]int{}, []int{0}, nil},
	{2, [][]int{{0, 1}}, []int{1, 1}, nil},
	{3, [][]int{{0, 1}, {0, 2}}, []int{2, 1, 1}, []int{0}},
	{3, [][]int{{0, 1}, {1, 2}}, []int{1, 2, 1}, []int{1}},
	{3, [][]int{{0, 2}, {1, 2}}, []int{1, 1, 2}, []int{2}},
	{4, [][]int{{0, 1}, {0, 2}, {2, 3}}, []int{2, 1, 2, 1}, []int{0, 2}},
	{4, [][]int{{0, 3}, {1, 2}, {1, 3}}, []int{1, 2, 1, 2}, []int{3, 1}},
	{5, [][]int{{0, 4}, {1, 3}, {1, 4}, {2, 3}}, []int{1, 2, 1, 2, 2}, []int{4, 3, 1}},
	{6, [][]int{{0, 3}, {1, 3}, {2, 3}, {3, 4}, {4, 5}}, []int{1, 1, 1, 4, 2, 1}, []int{3, 3, 3, 4}},
	{7, [][]int{{0, 1}, {0, 2}, {1, 3}, {1, 4}, {2, 5}, {2, 6}}, []int{2, 3, 3, 1, 1, 1, 1}, []int{1, 1, 0, 2, 2}},
	{7, [][]int{{0, 6}, {1, 5}, {1, 6}, {2, 4}, {2, 5}, {3, 4}}, []int{1, 2, 2, 1, 2, 2, 2}, []int{6, 4, 2, 5, 1}},
}

// noTrees are edges that are no tree of so many nodes.
var noTrees = []struct {
	n     int
	edges [][]int
}{
	{0, nil}, {-1, nil}, {-2, nil}, {math.MinInt, nil}, {math.MinInt + 1, nil}, {math.MaxInt, nil},
	{impl.MaxNodes + 1, nil}, {impl.MaxNodes + 1, rowEdges(impl.MaxNodes + 1)},
	{impl.MaxNodes + 1, starEdges(impl.MaxNodes+1, 0)}, {1000, rowEdges(1000)},
	// Too few and too many edges.
	{2, nil}, {3, [][]int{{0, 1}}}, {7, rowEdges(6)}, {1, [][]int{{0, 1}}}, {1, [][]int{{0, 0}}}, {1, [][]int{{}}},
	{2, [][]int{{0, 1}, {0, 1}}}, {3, [][]int{{0, 1}, {0, 2}, {1, 2}}}, {6, rowEdges(7)}, {2, make([][]int, 1000)},
	// Rows that are not two nodes.
	{2, [][]int{nil}}, {2, [][]int{{}}}, {2, [][]int{{0}}}, {2, [][]int{{1}}}, {2, [][]int{{0, 1, 1}}},
	{3, [][]int{{0, 1}, {2}}}, {3, [][]int{{0, 1}, {0, 2, 0}}}, {4, [][]int{{0, 1, 2}, {0, 2}, {2, 3}}},
	{3, [][]int{{0, 1}, nil}}, {3, [][]int{nil, {1, 2}}},
	// The greater node first, or the same one twice.
	{2, [][]int{{1, 0}}}, {3, [][]int{{1, 0}, {1, 2}}}, {3, [][]int{{0, 1}, {2, 1}}}, {4, [][]int{{0, 1}, {0, 2}, {3, 2}}},
	{2, [][]int{{0, 0}}}, {2, [][]int{{1, 1}}}, {3, [][]int{{0, 1}, {2, 2}}}, {3, [][]int{{0, 0}, {1, 2}}},
	// Rows that do not ascend.
	{3, [][]int{{0, 2}, {0, 1}}}, {3, [][]int{{1, 2}, {0, 1}}}, {3, [][]int{{1, 2}, {0, 2}}},
	{4, [][]int{{0, 1}, {2, 3}, {0, 2}}}, {4, [][]int{{0, 2}, {0, 1}, {2, 3}}}, {4, [][]int{{0, 3}, {1, 3}, {1, 2}}},
	// An edge twice.
	{3, [][]int{{0, 1}, {0, 1}}}, {4, [][]int{{0, 1}, {0, 1}, {2, 3}}}, {4, [][]int{{0, 1}, {2, 3}, {0, 1}}},
	{4, [][]int{{0, 1}, {1, 2}, {1, 2}}}, {5, [][]int{{0, 1}, {0, 2}, {0, 3}, {0, 3}}},
	// Nodes that are not there.
	{2, [][]int{{0, 2}}}, {2, [][]int{{1, 2}}}, {2, [][]int{{-1, 0}}}, {2, [][]int{{-1, 1}}}, {3, [][]int{{0, 1}, {1, 3}}},
	{3, [][]int{{-1, 0}, {0, 1}}}, {7, [][]int{{0, 1}, {1, 2}, {2, 3}, {3, 4}, {4, 5}, {5, 7}}}, {2, [][]int{{0, math.MaxInt}}},
	{2, [][]int{{math.MinInt, 0}}}, {2, [][]int{{math.MinInt, math.MaxInt}}}, {3, [][]int{{0, 1}, {1, math.MaxInt}}},
	// A ring beside nodes that are not reached.
	{4, [][]int{{0, 1}, {0, 2}, {1, 2}}}, {4, [][]int{{1, 2}, {1, 3}, {2, 3}}}, {4, [][]int{{0, 2}, {0, 3}, {2, 3}}},
	{5, [][]int{{0, 1}, {0, 3}, {1, 2}, {2, 3}}}, {5, [][]int{{0, 1}, {2, 3}, {2, 4}, {3, 4}}},
	{6, [][]int{{0, 1}, {0, 2}, {1, 2}, {3, 4}, {4, 5}}}, {7, [][]int{{0, 1}, {1, 2}, {3, 4}, {3, 6}, {4, 5}, {5, 6}}},
}

// noCodes are numbers that are no code of so many nodes.
var noCodes = []struct {
	n    int
	code []int
}{
	{0, nil}, {0, []int{0}}, {-1, nil}, {-2, nil}, {math.MinInt, nil}, {math.MinInt + 1, nil}, {math.MaxInt, nil},
	{math.MinInt, []int{0}}, {math.MaxInt, []int{0}},
	{impl.MaxNodes + 1, nil}, {impl.MaxNodes + 1, make([]int, impl.MaxNodes-1)}, {1000, make([]int, 998)},
	// Not empty for one node or two.
	{1, []int{0}}, {1, []int{-1}}, {1, []int{0, 0}}, {2, []int{0}}, {2, []int{1}}, {2, []int{0, 1}},
	// Too short and too long.
	{3, nil}, {3, []int{0, 1}}, {4, []int{0}}, {4, []int{0, 1, 2}}, {4, []int{0, 1, 2, 3}}, {5, []int{0, 1}},
	{7, make([]int, 4)}, {7, make([]int, 6)}, {7, make([]int, 7)}, {7, nil}, {3, make([]int, 1000)},
	// Numbers that are no nodes.
	{3, []int{3}}, {3, []int{-1}}, {4, []int{0, 4}}, {4, []int{4, 0}}, {4, []int{-1, 0}}, {4, []int{0, -1}},
	{7, []int{0, 1, 2, 3, 7}}, {7, []int{6, 6, 7, 6, 6}}, {3, []int{math.MaxInt}}, {3, []int{math.MinInt}},
	{7, []int{0, 0, 0, 0, math.MaxInt}}, {7, []int{math.MinInt, 0, 0, 0, 0}},
}

// codeByTaking returns what CodeOf should: it takes the least node with one
// neighbour out of the neighbours of all, again and again.
func codeByTaking(n int, edges [][]int) []int {
	beside := map[int]map[int]bool{}
	for node := range n {
		beside[node] = map[int]bool{}
	}
	for _, row := range edges {
		beside[row[0]][row[1]] = true
		beside[row[1]][row[0]] = true
	}
	var code []int
	for len(beside) > 2 {
		leaf := 0
		for len(beside[leaf]) != 1 {
			leaf++
		}
		for end := range beside[leaf] {
			code = append(code, end)
			delete(beside[end], leaf)
		}
		delete(beside, leaf)
	}
	return code
}

// checkTree compares ValidTree with whether edges are among all trees of n
// nodes, by their texts.
func checkTree(t *testing.T, trees map[string]bool, n int, edges [][]int) {
	t.Helper()
	want := trees[fmt.Sprint(edges)]
	if got := impl.ValidTree(n, edges); got != want {
		t.Fatalf("ValidTree(%d, %v) = %v", n, edges, got)
	}
	if want {
		return
	}
	if degrees, code := impl.DegreesOf(n, edges), impl.CodeOf(n, edges); len(degrees) != 0 || len(code) != 0 {
		t.Fatalf("of %d nodes and %v, DegreesOf = %v and CodeOf = %v", n, edges, degrees, code)
	}
}

// textsOfTrees returns the texts of all trees of n nodes.
func textsOfTrees(n int) map[string]bool {
	texts := map[string]bool{}
	for _, edges := range treesByTrying(n) {
		texts[fmt.Sprint(edges)] = true
	}
	return texts
}

func TestTreeCases(t *testing.T) {
	for _, c := range treeCases {
		if !impl.ValidTree(c.n, c.edges) {
			t.Errorf("ValidTree(%d, %v) = false", c.n, c.edges)
		}
		if got := impl.DegreesOf(c.n, c.edges); !slices.Equal(got, c.degrees) {
			t.Errorf("DegreesOf(%d, %v) = %v, want %v", c.n, c.edges, got, c.degrees)
		}
		if got := impl.CodeOf(c.n, c.edges); !slices.Equal(got, c.code) {
			t.Errorf("CodeOf(%d, %v) = %v, want %v", c.n, c.edges, got, c.code)
		}
		if got := impl.TreeOf(c.n, c.code); !sameRows(got, c.edges) {
			t.Errorf("TreeOf(%d, %v) = %v, want %v", c.n, c.code, got, c.edges)
		}
	}
}

func TestStarsAndRows(t *testing.T) {
	if impl.MaxNodes != 7 {
		t.Errorf("MaxNodes = %d, want 7", impl.MaxNodes)
	}
	for n := 1; n <= impl.MaxNodes; n++ {
		var between []int
		for node := 1; node < n-1; node++ {
			between = append(between, node)
		}
		checkCode(t, n, rowEdges(n), between)
		for center := range n {
			checkCode(t, n, starEdges(n, center), slices.Repeat([]int{center}, max(n-2, 0)))
		}
	}
}

// checkCode checks that edges are a tree, and that a code is that of them.
func checkCode(t *testing.T, n int, edges [][]int, code []int) {
	t.Helper()
	if !impl.ValidTree(n, edges) {
		t.Errorf("ValidTree(%d, %v) = false", n, edges)
	}
	if got := impl.CodeOf(n, edges); !slices.Equal(got, code) {
		t.Errorf("CodeOf(%d, %v) = %v, want %v", n, edges, got, code)
	}
	if got := impl.TreeOf(n, code); !sameRows(got, edges) {
		t.Errorf("TreeOf(%d, %v) = %v, want %v", n, code, got, edges)
	}
}

func TestNoTrees(t *testing.T) {
	for _, c := range noTrees {
		if impl.ValidTree(c.n, c.edges) {
			t.Errorf("ValidTree(%d, %v) = true", c.n, c.edges)
		}
		if got := impl.DegreesOf(c.n, c.edges); got != nil {
			t.Errorf("DegreesOf(%d, %v) = %v", c.n, c.edges, got)
		}
		if got := impl.CodeOf(c.n, c.edges); got != nil {
			t.Errorf("CodeOf(%d, %v) = %v", c.n, c.edges, got)
		}
	}
}

func TestNoCodes(t *testing.T) {
	for _, c := range noCodes {
		if got := impl.TreeOf(c.n, c.code); got != nil {
			t.Errorf("TreeOf(%d, %v) = %v", c.n, c.code, got)
		}
	}
}

func TestValidTreeOfAllFewRows(t *testing.T) {
	for n := range 4 {
		trees := textsOfTrees(n)
		pairs := rowsOfNumbers(2, -1, n)
		for length := range n + 1 {
			for _, choice := range rowsOfNumbers(length, 0, len(pairs)-1) {
				checkTree(t, trees, n, chosen(pairs, choice))
			}
		}
	}
	trees := textsOfTrees(4)
	pairs := rowsOfNumbers(2, 0, 3)
	for _, choice := range rowsOfNumbers(3, 0, len(pairs)-1) {
		checkTree(t, trees, 4, chosen(pairs, choice))
	}
}

// chosen returns copies of the rows at some places.
func chosen(rows [][]int, places []int) [][]int {
	var list [][]int
	for _, place := range places {
		list = append(list, slices.Clone(rows[place]))
	}
	return list
}

func TestValidTreeWithOneNumberChanged(t *testing.T) {
	for n := 2; n < impl.MaxNodes; n++ {
		trees := textsOfTrees(n)
		for _, edges := range treesByTrying(n) {
			for place := range edges {
				for end := range 2 {
					for number := -1; number <= n; number++ {
						changed := copyRows(edges)
						changed[place][end] = number
						checkTree(t, trees, n, changed)
					}
				}
			}
		}
	}
}

func TestValidTreeWithRowsMoved(t *testing.T) {
	for n := 2; n <= impl.MaxNodes; n++ {
		trees := textsOfTrees(n)
		for at, edges := range treesByTrying(n) {
			checkTree(t, trees, n, edges)
			// Of the many trees of most nodes, some are enough.
			if at%8 != 0 {
				continue
			}
			for place := range edges {
				less := slices.Delete(copyRows(edges), place, place+1)
				checkTree(t, trees, n, less)
				checkTree(t, trees, n, slices.Insert(copyRows(edges), place, edges[place]))
				checkTree(t, trees, n, append(less, edges[place]))
			}
		}
	}
}

func TestTreesAndCodesOfAllTrees(t *testing.T) {
	for n := 1; n <= impl.MaxNodes; n++ {
		for _, edges := range treesByTrying(n) {
			code := codeByTaking(n, edges)
			if got := impl.CodeOf(n, edges); !slices.Equal(got, code) {
				t.Fatalf("CodeOf(%d, %v) = %v, want %v", n, edges, got, code)
			}
			if got := impl.TreeOf(n, code); !sameRows(got, edges) {
				t.Fatalf("TreeOf(%d, %v) = %v, want %v", n, code, got, edges)
			}
		}
	}
}

// Promise 24: trees are codes.
func TestTreesAreCodes(t *testing.T) {
	for n := 1; n <= impl.MaxNodes; n++ {
		for _, edges := range treesByTrying(n) {
			code := impl.CodeOf(n, edges)
			for _, node := range code {
				if node < 0 || node >= n {
					t.Fatalf("CodeOf(%d, %v) = %v", n, edges, code)
				}
			}
			if got := impl.TreeOf(n, code); !sameRows(got, edges) {
				t.Fatalf("TreeOf(%d, %v) = %v, but this is the code of %v", n, code, got, edges)
			}
		}
	}
}

// Promise 25: degrees are told by codes.
func TestDegreesAreToldByCodes(t *testing.T) {
	if got := impl.DegreesOf(1, nil); !slices.Equal(got, []int{0}) {
		t.Errorf("DegreesOf one node = %v", got)
	}
	for n := 2; n <= impl.MaxNodes; n++ {
		for _, edges := range treesByTrying(n) {
			degrees := impl.DegreesOf(n, edges)
			want := slices.Repeat([]int{1}, n)
			for _, node := range impl.CodeOf(n, edges) {
				want[node]++
			}
			if !slices.Equal(degrees, want) {
				t.Fatalf("DegreesOf(%d, %v) = %v, but CodeOf it = %v", n, edges, degrees, impl.CodeOf(n, edges))
			}
			together := 0
			for _, degree := range degrees {
				together += degree
			}
			if together != 2*len(edges) {
				t.Fatalf("DegreesOf(%d, %v) = %v", n, edges, degrees)
			}
		}
	}
}

func TestDegreesOf(t *testing.T) {
	for n := 1; n <= impl.MaxNodes; n++ {
		for _, edges := range treesByTrying(n) {
			ends := slices.Concat(edges...)
			want := make([]int, n)
			for _, node := range ends {
				want[node]++
			}
			if got := impl.DegreesOf(n, edges); !slices.Equal(got, want) {
				t.Fatalf("DegreesOf(%d, %v) = %v, want %v", n, edges, got, want)
			}
		}
	}
}

// Promise 26: codes are told by trees. For one node there are no two numbers
// fewer than nodes, and the code is none.
func TestCodesAreToldByTrees(t *testing.T) {
	for n := 1; n <= impl.MaxNodes; n++ {
		codes := map[string]bool{}
		for _, edges := range treesByTrying(n) {
			code := impl.CodeOf(n, edges)
			if len(code) != max(n-2, 0) {
				t.Fatalf("CodeOf(%d, %v) = %v", n, edges, code)
			}
			if again := impl.CodeOf(n, impl.TreeOf(n, code)); !slices.Equal(again, code) {
				t.Fatalf("CodeOf(%d, %v) = %v, but CodeOf TreeOf this = %v", n, edges, code, again)
			}
			codes[fmt.Sprint(code)] = true
		}
		if len(codes) != impl.CountTrees(n) {
			t.Errorf("%d trees of %d nodes have %d codes", impl.CountTrees(n), n, len(codes))
		}
	}
}

// Promise 27: each code is of one tree.
func TestEachCodeIsOfOneTree(t *testing.T) {
	for n := 1; n <= impl.MaxNodes; n++ {
		trees := map[string]bool{}
		for _, code := range rowsOfNumbers(max(n-2, 0), 0, n-1) {
			edges := impl.TreeOf(n, code)
			if !impl.ValidTree(n, edges) {
				t.Fatalf("TreeOf(%d, %v) = %v, which is no tree", n, code, edges)
			}
			if got := impl.CodeOf(n, edges); !slices.Equal(got, code) {
				t.Fatalf("TreeOf(%d, %v) = %v, but CodeOf this = %v", n, code, edges, got)
			}
			trees[fmt.Sprint(edges)] = true
		}
		if len(trees) != impl.CountTrees(n) {
			t.Errorf("all codes of %d nodes are of %d trees, want %d", n, len(trees), impl.CountTrees(n))
		}
	}
}

func TestTreeOfAllFewNumbers(t *testing.T) {
	for n := range 6 {
		for length := range n + 1 {
			for _, code := range rowsOfNumbers(length, -1, n) {
				valid := n > 1 && length == n-2
				for _, node := range code {
					valid = valid && node >= 0 && node < n
				}
				if edges := impl.TreeOf(n, code); (len(edges) > 0) != valid {
					t.Fatalf("TreeOf(%d, %v) = %v", n, code, edges)
				}
			}
		}
	}
}

func TestCountTrees(t *testing.T) {
	for i, want := range []int{1, 1, 3, 16, 125, 1296, 16807} {
		n := i + 1
		if got := impl.CountTrees(n); got != want {
			t.Errorf("CountTrees(%d) = %d, want %d", n, got, want)
		}
		if tried := len(treesByTrying(n)); tried != want {
			t.Errorf("%d trees of %d nodes are found by trying, want %d", tried, n, want)
		}
	}
	for _, n := range []int{0, -1, -2, impl.MaxNodes + 1, 100, math.MinInt, math.MinInt + 1, math.MaxInt} {
		if got := impl.CountTrees(n); got != -1 {
			t.Errorf("CountTrees(%d) = %d", n, got)
		}
	}
}

func TestTreeResultsAreNew(t *testing.T) {
	for _, c := range treeCases {
		edges := impl.TreeOf(c.n, c.code)
		for i := range edges {
			// A row with capacity to spare must not reach into the next one.
			_ = append(edges[i], 100, 100, 100)
		}
		if !sameRows(edges, c.edges) {
			t.Errorf("TreeOf(%d, %v) = %v after each row got more numbers", c.n, c.code, edges)
		}
		for _, row := range edges {
			clear(row)
		}
		clear(impl.DegreesOf(c.n, c.edges))
		clear(impl.CodeOf(c.n, c.edges))
	}
	TestTreeCases(t)
}

func TestTreeArgumentsStayAsTheyAre(t *testing.T) {
	all := [][]int{{0, 1, 9}, {0, 2, 9}, {2, 3, 9}, {8, 9}}
	edges := firstTwos(all)
	before := fmt.Sprint(all, edges)
	for length := range edges {
		impl.ValidTree(4, edges[:length])
		impl.DegreesOf(4, edges[:length])
		clear(impl.CodeOf(4, edges[:length]))
	}
	if after := fmt.Sprint(all, edges); after != before {
		t.Errorf("edges %s have become %s", before, after)
	}
	numbers := []int{2, 0, 5, 5}
	for length := range numbers {
		for n := range 7 {
			impl.TreeOf(n, numbers[:length])
		}
	}
	if !slices.Equal(numbers, []int{2, 0, 5, 5}) {
		t.Errorf("TreeOf changed numbers to %v", numbers)
	}
}
