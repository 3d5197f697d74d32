package tests

import (
	"fmt"
	"math"
	"math/bits"
	"slices"
	"sync"
	"testing"

	"loop.example/shapesoftrees/impl"
)

// web is a web of n nodes.
type web struct {
	n     int
	edges [][]int
}

// spanCases are webs whose spans were written down by hand.
var spanCases = []struct {
	web
	spans []int
}{
	// One node, with no edges and with loops.
	{web{1, nil}, []int{0}},
	{web{1, [][]int{}}, []int{0}},
	{web{1, [][]int{{0, 0}}}, []int{0}},
	{web{1, [][]int{{0, 0}, {0, 0}, {0, 0}}}, []int{0}},
	// No edges.
	{web{2, nil}, nil}, {web{3, nil}, nil}, {web{5, nil}, nil},
	// Loops, which reach no other node.
	{web{2, [][]int{{0, 0}}}, nil},
	{web{2, [][]int{{0, 0}, {1, 1}}}, nil},
	{web{2, [][]int{{0, 0}, {0, 1}, {1, 1}}}, []int{2}},
	{web{2, [][]int{{0, 1}, {0, 1}, {0, 0}}}, []int{1, 2}},
	{web{3, [][]int{{2, 2}, {0, 1}, {1, 1}, {2, 0}, {2, 2}}}, []int{10}},
	// Edges twice, in the same order and the other way round.
	{web{2, [][]int{{0, 1}, {1, 0}}}, []int{1, 2}},
	{web{2, [][]int{{1, 0}, {1, 0}, {1, 0}}}, []int{1, 2, 4}},
	{web{3, [][]int{{0, 1}, {1, 2}, {1, 0}, {2, 1}}}, []int{3, 6, 9, 12}},
	{web{3, [][]int{{0, 1}, {1, 2}, {2, 0}, {0, 2}}}, []int{3, 5, 6, 9, 10}},
	// Two pieces, with and without rings.
	{web{3, [][]int{{0, 1}}}, nil},
	{web{3, [][]int{{0, 1}, {1, 0}}}, nil},
	{web{4, [][]int{{0, 1}, {2, 3}}}, nil},
	{web{4, [][]int{{0, 1}, {1, 2}, {2, 0}}}, nil},
	{web{4, [][]int{{1, 2}, {2, 3}, {3, 1}, {0, 0}}}, nil},
	{web{5, [][]int{{0, 1}, {2, 3}, {3, 4}, {4, 2}, {1, 0}}}, nil},
	// Trees.
	{web{2, [][]int{{1, 0}}}, []int{1}},
	{web{3, [][]int{{2, 1}, {0, 2}}}, []int{3}},
	{web{5, [][]int{{4, 0}, {0, 3}, {1, 0}, {0, 2}}}, []int{15}},
	// Rings.
	{web{3, [][]int{{0, 1}, {1, 2}, {2, 0}}}, []int{3, 5, 6}},
	{web{4, [][]int{{0, 1}, {1, 2}, {2, 3}, {3, 0}}}, []int{7, 11, 13, 14}},
	{web{5, [][]int{{0, 1}, {1, 2}, {2, 3}, {3, 4}, {4, 0}}}, []int{15, 23, 27, 29, 30}},
	// A ring with an edge that leads out of it, and two rings with a common edge.
	{web{4, [][]int{{0, 1}, {1, 2}, {2, 0}, {3, 1}}}, []int{11, 13, 14}},
	{web{4, [][]int{{0, 1}, {1, 2}, {2, 3}, {3, 0}, {0, 2}}}, []int{7, 11, 13, 14, 21, 22, 25, 26}},
}

// noWebs are edges that are no web of so many nodes.
var noWebs = []web{
	{0, nil}, {0, [][]int{}}, {0, [][]int{{0, 0}}}, {-1, nil}, {-2, nil}, {-1, [][]int{{-1, -1}}},
	{math.MinInt, nil}, {math.MinInt + 1, nil}, {math.MaxInt, nil}, {math.MaxInt, [][]int{{0, 1}}},
	{impl.MaxWeb + 1, nil}, {impl.MaxWeb + 1, rowEdges(impl.MaxWeb + 1)}, {impl.MaxNodes, rowEdges(impl.MaxNodes)},
	// Too many edges.
	{1, sameEdges(impl.MaxEdges+1, 0, 0)}, {2, sameEdges(impl.MaxEdges+1, 0, 1)}, {2, sameEdges(1000, 1, 0)},
	{5, allEdges(5)}, {5, allEdges(5)[1:]}, {5, sameEdges(impl.MaxEdges+1, 4, 3)}, {4, append(allEdges(4), rowEdges(4)...)},
	// Rows that are not two nodes.
	{2, [][]int{nil}}, {2, [][]int{{}}}, {2, [][]int{{0}}}, {2, [][]int{{1}}}, {2, [][]int{{0, 1, 1}}},
	{1, [][]int{{0}}}, {1, [][]int{{0, 0, 0}}}, {2, make([][]int, impl.MaxEdges)},
	{3, [][]int{{0, 1}, {1, 2}, {2}}}, {3, [][]int{{0, 1, 2}, {1, 2}}}, {3, [][]int{{0, 1}, nil, {1, 2}}},
	// Nodes that are not there.
	{1, [][]int{{0, 1}}}, {1, [][]int{{1, 0}}}, {1, [][]int{{1, 1}}}, {1, [][]int{{-1, 0}}}, {1, [][]int{{0, -1}}},
	{2, [][]int{{0, 2}}}, {2, [][]int{{2, 0}}}, {2, [][]int{{2, 2}}}, {2, [][]int{{-1, 1}}}, {2, [][]int{{1, -1}}},
	{2, [][]int{{-1, -1}}}, {3, [][]int{{0, 1}, {1, 2}, {2, 3}}}, {3, [][]int{{3, 2}, {0, 1}, {1, 2}}},
	{5, [][]int{{0, 5}}}, {5, [][]int{{5, 4}}}, {2, [][]int{{0, math.MaxInt}}}, {2, [][]int{{math.MaxInt, 1}}},
	{2, [][]int{{0, math.MinInt}}}, {2, [][]int{{math.MinInt, 1}}}, {2, [][]int{{math.MinInt, math.MaxInt}}},
}

// sameEdges returns so many edges between the same two nodes.
func sameEdges(count int, a int, b int) [][]int {
	var edges [][]int
	for range count {
		edges = append(edges, []int{a, b})
	}
	return edges
}

// allEdges returns an edge between all two of n nodes.
func allEdges(n int) [][]int {
	var edges [][]int
	for a := range n {
		for b := a + 1; b < n; b++ {
			edges = append(edges, []int{a, b})
		}
	}
	return edges
}

// ringEdges returns a ring of the nodes in an order.
func ringEdges(order []int) [][]int {
	var edges [][]int
	for i, node := range order {
		edges = append(edges, []int{node, order[(i+1)%len(order)]})
	}
	return edges
}

// edgesIn returns the edges of which a set has the places.
func edgesIn(set int, edges [][]int) [][]int {
	var list [][]int
	for place, row := range edges {
		if set&(1<<place) != 0 {
			list = append(list, row)
		}
	}
	return list
}

// allNear reports whether edges lead from the node 0 to all n nodes.
func allNear(n int, edges [][]int) bool {
	near := map[int]bool{0: true}
	for range n {
		for _, row := range edges {
			if near[row[0]] || near[row[1]] {
				near[row[0]], near[row[1]] = true, true
			}
		}
	}
	return len(near) == n
}

// spansByTrying returns what SpansOf should: of all sets those of one edge
// fewer than nodes that lead to all nodes.
func spansByTrying(w web) []int {
	var spans []int
	for set := range 1 << len(w.edges) {
		if tried := edgesIn(set, w.edges); len(tried) == w.n-1 && allNear(w.n, tried) {
			spans = append(spans, set)
		}
	}
	return spans
}

// websOfAnyEdges returns all webs of n nodes and so many edges.
func websOfAnyEdges(n int, length int) []web {
	var webs []web
	pairs := rowsOfNumbers(2, 0, n-1)
	for _, choice := range rowsOfNumbers(length, 0, len(pairs)-1) {
		webs = append(webs, web{n, chosen(pairs, choice)})
	}
	return webs
}

// websOfSets returns all webs of n nodes with edges between different nodes,
// and each one with a loop and with an edge once more, the other way round, if
// these are not too many.
func websOfSets(n int) []web {
	var webs []web
	all := allEdges(n)
	for set := range 1 << len(all) {
		edges := edgesIn(set, all)
		if len(edges) > impl.MaxEdges {
			continue
		}
		webs = append(webs, web{n, edges})
		if length := len(edges); length > 0 && length < impl.MaxEdges {
			middle := edges[length/2]
			loop := []int{middle[1], middle[1]}
			back := []int{middle[1], middle[0]}
			webs = append(webs, web{n, slices.Insert(slices.Clone(edges), length/2, loop)})
			webs = append(webs, web{n, append(slices.Clone(edges), back)})
		}
	}
	return webs
}

// manyWebs returns webs of all numbers of nodes, ordinary ones among them,
// those with loops, with edges twice, and in pieces.
var manyWebs = sync.OnceValue(func() []web {
	var webs []web
	// The more nodes, the more webs there are, so the fewer edges are tried.
	for i, most := range []int{impl.MaxEdges, 4, 3, 2, 1} {
		for length := range most + 1 {
			webs = append(webs, websOfAnyEdges(i+1, length)...)
		}
	}
	for n := 3; n <= impl.MaxWeb; n++ {
		webs = append(webs, websOfSets(n)...)
	}
	for n := 2; n <= impl.MaxWeb; n++ {
		webs = append(webs, web{n, sameEdges(impl.MaxEdges, n-1, n-2)})
	}
	return webs
})

// checkWeb checks all functions of webs by the spans of one.
func checkWeb(t *testing.T, w web, spans []int) {
	t.Helper()
	if !impl.ValidWeb(w.n, w.edges) {
		t.Fatalf("ValidWeb(%d, %v) = false", w.n, w.edges)
	}
	if got := impl.SpanByRows(w.n, w.edges); got != len(spans) {
		t.Fatalf("SpanByRows(%d, %v) = %d, want %d", w.n, w.edges, got, len(spans))
	}
	if got := impl.SpanByCuts(w.n, w.edges); got != len(spans) {
		t.Fatalf("SpanByCuts(%d, %v) = %d, want %d", w.n, w.edges, got, len(spans))
	}
	if got := impl.SpansOf(w.n, w.edges); !slices.Equal(got, spans) {
		t.Fatalf("SpansOf(%d, %v) = %v, want %v", w.n, w.edges, got, spans)
	}
	for k := range w.edges {
		with := 0
		for _, set := range spans {
			with += set / (1 << k) % 2
		}
		if got := impl.SpansWith(w.n, w.edges, k); got != with {
			t.Fatalf("SpansWith(%d, %v, %d) = %d, want %d", w.n, w.edges, k, got, with)
		}
	}
}

// checkNoWeb checks that edges are no web for any function.
func checkNoWeb(t *testing.T, w web) {
	t.Helper()
	if impl.ValidWeb(w.n, w.edges) {
		t.Errorf("ValidWeb(%d, %v) = true", w.n, w.edges)
	}
	if rows, cuts := impl.SpanByRows(w.n, w.edges), impl.SpanByCuts(w.n, w.edges); rows != -1 || cuts != -1 {
		t.Errorf("SpanByRows(%d, %v) = %d, SpanByCuts = %d", w.n, w.edges, rows, cuts)
	}
	if got := impl.SpansOf(w.n, w.edges); len(got) != 0 {
		t.Errorf("SpansOf(%d, %v) = %v", w.n, w.edges, got)
	}
	for k := -1; k <= len(w.edges); k++ {
		if got := impl.SpansWith(w.n, w.edges, k); got != -1 {
			t.Errorf("SpansWith(%d, %v, %d) = %d", w.n, w.edges, k, got)
		}
	}
}

func TestSpanCases(t *testing.T) {
	for _, c := range spanCases {
		checkWeb(t, c.web, c.spans)
	}
}

func TestSpansOfManyWebs(t *testing.T) {
	for _, w := range manyWebs() {
		checkWeb(t, w, spansByTrying(w))
	}
}

func TestSpansOfKnownWebs(t *testing.T) {
	// Two nodes, each one beside three others; four around one, in a ring; and a
	// ring of four with each edge twice.
	twoAndThree := [][]int{{0, 2}, {0, 3}, {0, 4}, {1, 2}, {1, 3}, {1, 4}}
	wheel := append(ringEdges([]int{1, 2, 3, 4}), starEdges(5, 0)...)
	ring := ringEdges([]int{0, 1, 2, 3})
	for _, c := range []struct {
		web
		want int
	}{
		{web{4, allEdges(4)}, 16}, {web{5, twoAndThree}, 12}, {web{5, wheel}, 45}, {web{5, allEdges(5)[2:]}, 40},
		{web{4, append(ring, ring...)}, 32}, {web{2, sameEdges(impl.MaxEdges, 1, 0)}, impl.MaxEdges},
		{web{1, sameEdges(impl.MaxEdges, 0, 0)}, 1}, {web{2, sameEdges(impl.MaxEdges, 1, 1)}, 0},
	} {
		if rows, cuts, found := impl.SpanByRows(c.n, c.edges), impl.SpanByCuts(c.n, c.edges), len(impl.SpansOf(c.n, c.edges)); rows != c.want || cuts != c.want || found != c.want {
			t.Errorf("of %d nodes and %v, there are %d spans by rows, %d by cuts and %d found, want %d", c.n, c.edges, rows, cuts, found, c.want)
		}
	}
}

func TestNoWebs(t *testing.T) {
	for _, w := range noWebs {
		checkNoWeb(t, w)
	}
}

func TestWebLimits(t *testing.T) {
	if impl.MaxWeb != 5 || impl.MaxEdges != 8 {
		t.Errorf("MaxWeb = %d, MaxEdges = %d, want 5 and 8", impl.MaxWeb, impl.MaxEdges)
	}
	for n := -1; n <= impl.MaxWeb+2; n++ {
		for count := range impl.MaxEdges + 3 {
			want := n >= 1 && n <= impl.MaxWeb && count <= impl.MaxEdges
			last := max(n-1, 0)
			for _, edges := range [][][]int{sameEdges(count, 0, last), sameEdges(count, last, last)} {
				if got := impl.ValidWeb(n, edges); got != want {
					t.Errorf("ValidWeb(%d, %v) = %v", n, edges, got)
				}
				if !want {
					checkNoWeb(t, web{n, edges})
				}
			}
		}
	}
}

func TestValidWebOfAllFewRows(t *testing.T) {
	for n := range 4 {
		rows := rowsOfNumbers(2, -1, n)
		rows = append(rows, rowsOfNumbers(1, -1, n)...)
		rows = append(rows, rowsOfNumbers(3, 0, 0)...)
		rows = append(rows, nil)
		for length := range 3 {
			for _, choice := range rowsOfNumbers(length, 0, len(rows)-1) {
				w := web{n, chosen(rows, choice)}
				want := n > 0
				for _, row := range w.edges {
					want = want && len(row) == 2 && slices.Min(row) >= 0 && slices.Max(row) < n
				}
				if got := impl.ValidWeb(w.n, w.edges); got != want {
					t.Fatalf("ValidWeb(%d, %v) = %v", w.n, w.edges, got)
				}
				if !want {
					checkNoWeb(t, w)
				}
			}
		}
	}
}

func TestSpansWithNoEdge(t *testing.T) {
	for _, c := range spanCases {
		count := len(c.edges)
		for _, k := range []int{-1, -2, count, count + 1, impl.MaxEdges, 63, 64, 65, 1000, math.MinInt, math.MaxInt} {
			if got := impl.SpansWith(c.n, c.edges, k); got != -1 {
				t.Errorf("SpansWith(%d, %v, %d) = %d", c.n, c.edges, k, got)
			}
		}
	}
}

// Promise 28: trees are spans of all edges. An edge between all two of five
// nodes is too many.
func TestTreesAreSpansOfAllEdges(t *testing.T) {
	for n := 1; n < impl.MaxWeb; n++ {
		if trees, spans := impl.CountTrees(n), impl.SpanByRows(n, allEdges(n)); trees != spans {
			t.Errorf("CountTrees(%d) = %d, but SpanByRows of all edges = %d", n, trees, spans)
		}
	}
	checkNoWeb(t, web{impl.MaxWeb, allEdges(impl.MaxWeb)})
}

// Promise 29: edges can be left out.
func TestEdgesCanBeLeftOut(t *testing.T) {
	for _, w := range manyWebs() {
		for count := len(w.edges); count >= 0; count-- {
			if !impl.ValidWeb(w.n, w.edges[:count]) {
				t.Fatalf("ValidWeb(%d, %v) = false, but with more edges, %v, it is a web", w.n, w.edges[:count], w.edges)
			}
		}
	}
}

// Promise 30: spans by rows are spans by cuts, and all that are found.
func TestSpansByRowsAreSpansByCuts(t *testing.T) {
	for _, w := range manyWebs() {
		rows, cuts, spans := impl.SpanByRows(w.n, w.edges), impl.SpanByCuts(w.n, w.edges), impl.SpansOf(w.n, w.edges)
		if rows < 0 || rows != cuts || rows != len(spans) {
			t.Fatalf("SpanByRows(%d, %v) = %d, SpanByCuts = %d, SpansOf = %v", w.n, w.edges, rows, cuts, spans)
		}
	}
}

// Promise 31: edges come in any order.
func TestEdgesComeInAnyOrder(t *testing.T) {
	for _, w := range manyWebs() {
		spans := impl.SpanByCuts(w.n, w.edges)
		turned := slices.Clone(w.edges)
		slices.Reverse(turned)
		if got := impl.SpanByCuts(w.n, turned); got != spans {
			t.Fatalf("SpanByCuts(%d, %v) = %d, the other way round %d", w.n, w.edges, spans, got)
		}
		for i, row := range turned {
			turned[i] = []int{row[1], row[0]}
		}
		if got := impl.SpanByCuts(w.n, turned); got != spans {
			t.Fatalf("SpanByCuts(%d, %v) = %d, but of %v it is %d", w.n, w.edges, spans, turned, got)
		}
	}
}

// Promise 31, its second half.
func TestWithOneEdgeMoreThereAreNoFewerSpans(t *testing.T) {
	for i, w := range manyWebs() {
		// Of the many webs of most nodes, some are enough.
		if len(w.edges) == impl.MaxEdges || w.n == impl.MaxWeb && i%4 != 0 {
			continue
		}
		spans := impl.SpanByCuts(w.n, w.edges)
		for _, row := range rowsOfNumbers(2, 0, w.n-1) {
			more := append(slices.Clone(w.edges), row)
			if got := impl.SpanByCuts(w.n, more); got < spans {
				t.Fatalf("SpanByCuts(%d, %v) = %d, but of %v it is %d", w.n, w.edges, spans, more, got)
			}
		}
	}
}

// Promise 32: spans have an edge fewer than nodes.
func TestSpansHaveAnEdgeFewerThanNodes(t *testing.T) {
	for _, w := range manyWebs() {
		spans := impl.SpansOf(w.n, w.edges)
		for i, set := range spans {
			if set < 0 || set >= 1<<len(w.edges) || bits.OnesCount(uint(set)) != w.n-1 || !allNear(w.n, edgesIn(set, w.edges)) {
				t.Fatalf("SpansOf(%d, %v) = %v, with %d", w.n, w.edges, spans, set)
			}
			if i > 0 && spans[i-1] >= set {
				t.Fatalf("SpansOf(%d, %v) = %v, with %d behind %d", w.n, w.edges, spans, set, spans[i-1])
			}
		}
	}
}

// Promise 33: spans with an edge are all less those without it.
func TestSpansWithAnEdgeAreAllLessThoseWithoutIt(t *testing.T) {
	for _, w := range manyWebs() {
		spans := impl.SpanByRows(w.n, w.edges)
		together := 0
		for k := range w.edges {
			with := impl.SpansWith(w.n, w.edges, k)
			without := slices.Delete(slices.Clone(w.edges), k, k+1)
			if want := spans - impl.SpanByRows(w.n, without); with != want {
				t.Fatalf("SpansWith(%d, %v, %d) = %d, want %d", w.n, w.edges, k, with, want)
			}
			together += with
		}
		if together != (w.n-1)*spans {
			t.Fatalf("SpansWith of %d nodes and %v are together %d, of %d spans", w.n, w.edges, together, spans)
		}
	}
}

// Promise 74: a tree is its only span.
func TestATreeIsItsOnlySpan(t *testing.T) {
	for n := 1; n <= impl.MaxWeb; n++ {
		for _, edges := range treesByTrying(n) {
			if !impl.ValidTree(n, edges) {
				t.Fatalf("ValidTree(%d, %v) = false", n, edges)
			}
			checkWeb(t, web{n, edges}, []int{1<<(n-1) - 1})
			for k := range edges {
				checkWeb(t, web{n, slices.Delete(slices.Clone(edges), k, k+1)}, nil)
			}
		}
	}
	for n := impl.MaxWeb + 1; n <= impl.MaxNodes; n++ {
		checkNoWeb(t, web{n, rowEdges(n)})
		checkNoWeb(t, web{n, starEdges(n, 0)})
	}
}

// Promise 75: rings lose one edge. The ring of one node is a loop, and that of
// two an edge twice.
func TestRingsLoseOneEdge(t *testing.T) {
	for n := 1; n <= impl.MaxWeb; n++ {
		for _, order := range rowsInAnyOrder(n) {
			edges := ringEdges(order)
			if got := impl.SpanByRows(n, edges); got != len(edges) {
				t.Fatalf("SpanByRows(%d, %v) = %d", n, edges, got)
			}
			for k := range edges {
				if got := impl.SpansWith(n, edges, k); got != len(edges)-1 {
					t.Fatalf("SpansWith(%d, %v, %d) = %d", n, edges, k, got)
				}
			}
		}
	}
}

func TestSpanResultsAreNew(t *testing.T) {
	for _, c := range spanCases {
		clear(impl.SpansOf(c.n, c.edges))
	}
	TestSpanCases(t)
}

func TestWebArgumentsStayAsTheyAre(t *testing.T) {
	all := [][]int{{2, 1, 9}, {0, 2, 9}, {1, 1, 9}, {2, 1, 9}, {1, 0, 9}, {5, 9}, {}}
	edges := firstTwos(all)
	before := fmt.Sprint(all, edges)
	for length := range edges {
		for n := range 4 {
			impl.ValidWeb(n, edges[:length])
			impl.SpanByRows(n, edges[:length])
			impl.SpanByCuts(n, edges[:length])
			clear(impl.SpansOf(n, edges[:length]))
			impl.SpansWith(n, edges[:length], 0)
		}
	}
	if after := fmt.Sprint(all, edges); after != before {
		t.Errorf("edges %s have become %s", before, after)
	}
}
