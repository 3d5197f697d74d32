package impl

import (
	"iter"
	"slices"
	"strings"
)

// MaxPairs is the largest number of pairs of a word.
const MaxPairs = 9

// MaxList is the largest number of pairs of which all words are listed.
const MaxList = 6

// ValidWord reports whether a text is a word of brackets.
func ValidWord(s string) bool {
	if len(s) > 2*MaxPairs {
		return false
	}
	open := 0
	for _, c := range s {
		switch c {
		case '(':
			open++
		case ')':
			open--
		default:
			return false
		}
		if open < 0 {
			return false
		}
	}
	return open == 0
}

// CountWords returns how many words there are of so many pairs.
func CountWords(n int) int {
	if n < 0 || n > MaxPairs {
		return -1
	}
	counts := make([]int, n+1)
	counts[0] = 1
	for pairs := 1; pairs <= n; pairs++ {
		for within := range pairs {
			behind := pairs - 1 - within
			counts[pairs] += counts[within] * counts[behind]
		}
	}
	return counts[n]
}

// WordsOf returns all words of so many pairs.
func WordsOf(n int) []string {
	if n < 0 || n > MaxList {
		return nil
	}
	none := func(beginning) bool { return false }
	return slices.Collect(wordsBut(n, none))
}

// beginning is the first part of a word, after which open pairs are open and
// left pairs have not begun.
type beginning struct {
	text string
	open int
	left int
}

// wordsBut gives out, in order, all words of so many pairs but those with a
// beginning that cut reports. A beginning is shown to cut ahead of all longer
// ones, and those of a beginning that is cut are not shown.
func wordsBut(n int, cut func(beginning) bool) iter.Seq[string] {
	return func(yield func(string) bool) {
		giveWords(beginning{left: n}, cut, yield)
	}
}

// giveWords gives out the words with a beginning, and reports whether more
// words are wanted.
func giveWords(b beginning, cut func(beginning) bool, yield func(string) bool) bool {
	if cut(b) {
		return true
	}
	if b.open == 0 && b.left == 0 {
		return yield(b.text)
	}
	// The words ascend because ( is a lesser byte than ).
	if b.left > 0 && !giveWords(beginning{b.text + "(", b.open + 1, b.left - 1}, cut, yield) {
		return false
	}
	return b.open == 0 || giveWords(beginning{b.text + ")", b.open - 1, b.left}, cut, yield)
}

// DepthsOf returns the depth of each node.
func DepthsOf(s string) []int {
	if !ValidWord(s) {
		return nil
	}
	var depths []int
	for _, around := range openPairs(s) {
		depths = append(depths, len(around))
	}
	return depths
}

// openPairs returns for each node of a word the nodes in which it is, the
// outermost one first.
func openPairs(s string) [][]int {
	var rows [][]int
	var open []int
	for _, c := range s {
		if c == ')' {
			open = open[:len(open)-1]
			continue
		}
		// What is open goes on changing, so each node keeps a copy of its own.
		around := make([]int, len(open))
		copy(around, open)
		open = append(open, len(rows))
		rows = append(rows, around)
	}
	return rows
}

// WordOfDepths returns the word of depths.
func WordOfDepths(d []int) (string, bool) {
	if len(d) > MaxPairs {
		return "", false
	}
	word := ""
	open := 0
	for _, depth := range d {
		if depth < 0 || depth > open {
			return "", false
		}
		word += strings.Repeat(")", open-depth) + "("
		open = depth + 1
	}
	return word + strings.Repeat(")", open), true
}

// ParentsOf returns the parent of each node.
func ParentsOf(s string) []int {
	if !ValidWord(s) {
		return nil
	}
	var parents []int
	for _, around := range openPairs(s) {
		parent := -1
		if len(around) > 0 {
			parent = around[len(around)-1]
		}
		parents = append(parents, parent)
	}
	return parents
}

// MirrorOf returns the word the other way round.
func MirrorOf(s string) string {
	if !ValidWord(s) {
		return ""
	}
	mirror := make([]byte, len(s))
	for i, c := range s {
		turned := byte('(')
		if c == '(' {
			turned = ')'
		}
		mirror[len(s)-1-i] = turned
	}
	return string(mirror)
}

// LeavesOf returns how many nodes have no children.
func LeavesOf(s string) int {
	if !ValidWord(s) {
		return -1
	}
	return strings.Count(s, "()")
}
