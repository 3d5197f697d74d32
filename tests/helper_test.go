package tests

import (
	"strings"

	"loop.example/shapesoftrees/impl"
)

// catalan holds how many words there are of 0 pairs up to MaxPairs.
var catalan = []int{1, 1, 2, 5, 14, 42, 132, 429, 1430, 4862}

// noWords are texts that are no words.
var noWords = []string{
	"(", ")", ")(", "((", "))", "())", "(()", "())(", "())(()", "(()))(",
	"x", "()x", "x()", "(x)", " ()", "() ", "()\n", "(\x00)", "[]", "{}", "<>", "()[]",
	"\xff", "()\xff", "(\x80)", "\uff08\uff09", "(\uff09", "()\u00a0",
	nested(impl.MaxPairs + 1), beside(impl.MaxPairs + 1), "(" + beside(impl.MaxPairs) + ")",
	strings.Repeat("(", 1000), nested(1000), beside(1000),
}

// nested returns n pairs in each other.
func nested(n int) string {
	return strings.Repeat("(", n) + strings.Repeat(")", n)
}

// beside returns n pairs beside each other.
func beside(n int) string {
	return strings.Repeat("()", n)
}

// balanced reports whether a text vanishes when pairs with nothing between
// their brackets are taken out again and again.
func balanced(s string) bool {
	for strings.Contains(s, "()") {
		s = strings.ReplaceAll(s, "()", "")
	}
	return s == ""
}

// cutWord returns what is in the first pair of a word, and what is behind it.
func cutWord(s string) (string, string) {
	depth := 0
	for i := range len(s) {
		depth += map[byte]int{'(': 1, ')': -1}[s[i]]
		if depth == 0 {
			return s[1:i], s[i+1:]
		}
	}
	return "", ""
}

// bracketTexts returns all texts of so many brackets, byte by byte.
func bracketTexts(length int) []string {
	texts := make([]string, 0, 1<<length)
	for bits := range 1 << length {
		text := make([]byte, length)
		for i := range text {
			text[i] = "()"[bits>>(length-1-i)&1]
		}
		texts = append(texts, string(text))
	}
	return texts
}

// wordsByTrying returns all words of n pairs, byte by byte, without the help
// of the program.
func wordsByTrying(n int) []string {
	var words []string
	for _, text := range bracketTexts(2 * n) {
		if balanced(text) {
			words = append(words, text)
		}
	}
	return words
}

// allWords returns all words of up to MaxPairs pairs.
func allWords() []string {
	var words []string
	for n := range impl.MaxPairs + 1 {
		words = append(words, wordsByTrying(n)...)
	}
	return words
}
