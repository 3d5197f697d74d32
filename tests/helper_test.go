package tests

import (
	"slices"
	"strings"

	"loop.example/shapesoftrees/impl"
)

// catalan holds how many words there are of 0 pairs up to MaxPairs.
var catalan = []int{1, 1, 2, 5, 14, 42, 132, 429, 1430, 4862}

// noWords are texts that are no words.
var noWords = []string{
	"(", ")", ")(", "((", "))", "())", "(()", "())(", "())(()", "(()))(",
	"x", "()x", "x()", "(x)", " ()", "() ", "()\n", "(\x00)", "[]", "{}", "<>", "()[]",
	"\xff", "()\xff", "(\x80)", "\uff08\uff09", "(\uff09", "()\u00a0",
	nested(impl.MaxPairs + 1), beside(impl.MaxPairs + 1), "(" + beside(impl.MaxPairs) + ")",
	strings.Repeat("(", 1000), nested(1000), beside(1000),
}

// nested returns n pairs in each other.
func nested(n int) string {
	return strings.Repeat("(", n) + strings.Repeat(")", n)
}

// beside returns n pairs beside each other.
func beside(n int) string {
	return strings.Repeat("()", n)
}

// balanced reports whether a text vanishes when pairs with nothing between
// their brackets are taken out again and again.
func balanced(s string) bool {
	for strings.Contains(s, "()") {
		s = strings.ReplaceAll(s, "()", "")
	}
	return s == ""
}

// cutWord returns what is in the first pair of a word, and what is behind it.
func cutWord(s string) (string, string) {
	depth := 0
	for i := range len(s) {
		depth += map[byte]int{'(': 1, ')': -1}[s[i]]
		if depth == 0 {
			return s[1:i], s[i+1:]
		}
	}
	return "", ""
}

// bracketTexts returns all texts of so many brackets, byte by byte.
func bracketTexts(length int) []string {
	texts := make([]string, 0, 1<<length)
	for bits := range 1 << length {
		text := make([]byte, length)
		for i := range text {
			text[i] = "()"[bits>>(length-1-i)&1]
		}
		texts = append(texts, string(text))
	}
	return texts
}

// wordsByTrying returns all words of n pairs, byte by byte, without the help
// of the program.
func wordsByTrying(n int) []string {
	var words []string
	for _, text := range bracketTexts(2 * n) {
		if balanced(text) {
			words = append(words, text)
		}
	}
	return words
}

// allWords returns all words of up to MaxPairs pairs.
func allWords() []string {
	var words []string
	for n := range impl.MaxPairs + 1 {
		words = append(words, wordsByTrying(n)...)
	}
	return words
}

// copyRows returns a copy of rows that shares no memory with them.
func copyRows(rows [][]int) [][]int {
	var list [][]int
	for _, row := range rows {
		list = append(list, slices.Clone(row))
	}
	return list
}

// firstTwos returns the first two numbers of each row; all behind them is spare
// capacity, so that a function that writes past the end of a row is found out.
func firstTwos(rows [][]int) [][]int {
	var list [][]int
	for _, row := range rows {
		list = append(list, row[:min(len(row), 2)])
	}
	return list
}

// rowEdges returns the tree of n nodes in a row, each one beside the next one.
func rowEdges(n int) [][]int {
	var edges [][]int
	for node := range n - 1 {
		edges = append(edges, []int{node, node + 1})
	}
	return edges
}

// starEdges returns the tree of n nodes around one of them.
func starEdges(n int, center int) [][]int {
	var edges [][]int
	for node := range n {
		if node != center {
			edges = append(edges, []int{min(node, center), max(node, center)})
		}
	}
	return edges
}

// treesByTrying returns all trees of n nodes, without the help of the program:
// of all sets of edges between two nodes those that have one fewer than nodes,
// each of which joins two parts.
func treesByTrying(n int) [][][]int {
	if n < 1 {
		return nil
	}
	parts := make([]int, n)
	for node := range parts {
		parts[node] = node
	}
	var all [][]int
	for a := range n {
		for b := a + 1; b < n; b++ {
			all = append(all, []int{a, b})
		}
	}
	return joinParts(parts, nil, all, n-1)
}

// joinParts returns all trees of some edges and so many of others, each of
// which joins two parts.
func joinParts(parts []int, edges [][]int, others [][]int, missing int) [][][]int {
	if missing == 0 {
		return [][][]int{copyRows(edges)}
	}
	var trees [][][]int
	for i, row := range others {
		kept, lost := parts[row[0]], parts[row[1]]
		if kept == lost {
			continue
		}
		joined := slices.Clone(parts)
		for node, part := range joined {
			if part == lost {
				joined[node] = kept
			}
		}
		longer := append(slices.Clone(edges), row)
		trees = append(trees, joinParts(joined, longer, others[i+1:], missing-1)...)
	}
	return trees
}
