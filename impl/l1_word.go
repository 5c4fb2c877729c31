// Package impl: documents that are found.
package impl

import (
	"iter"
	"slices"
	"strings"
)

// Limits of texts.
const (
	TextMax = 60
	WordMax = 12
)

// Word is a word of a text: what it is, and where it begins and ends.
type Word struct {
	Text string
	From int
	To   int
}

// Fold is a text with small letters.
func Fold(s string) string {
	out := []byte(s)
	for i, b := range out {
		if isGreat(b) {
			out[i] = b - 'A' + 'a'
		}
	}
	return string(out)
}

// Words is all words of a text.
func Words(s string) []Word {
	return slices.Collect(eachWord(s))
}

// Terms is all words of a text as they are looked for, one behind the other; empty where nothing is looked for.
func Terms(s string) []string {
	return slices.Collect(eachTerm(eachWord(s)))
}

// Stem is what a word is looked for as.
func Stem(s string) string {
	folded := Fold(s)
	if len(folded) > WordMax {
		folded = folded[:WordMax]
	}
	stem := withoutMany(folded)
	if isFiller(stem) {
		return ""
	}
	return stem
}

// TermOk says whether a text is a word as it is looked for.
func TermOk(s string) bool {
	return isWord(s) && Stem(s) == s
}

// eachWord tells words one by one, each with a text of its own, so that none hangs on s.
func eachWord(s string) iter.Seq[Word] {
	return func(yield func(Word) bool) {
		for at := 0; at < len(s); at++ {
			to := wordEnd(s, at)
			if to == at {
				continue
			}
			if !yield(Word{Text: strings.Clone(s[at:to]), From: at, To: to}) {
				return
			}
			at = to
		}
	}
}

// eachTerm tells the empty text, too, as places among terms are places among words.
func eachTerm(words iter.Seq[Word]) iter.Seq[string] {
	return func(yield func(string) bool) {
		for w := range words {
			if !yield(Stem(w.Text)) {
				return
			}
		}
	}
}

// wordEnd is the place behind the word that begins at a place, or that place, if none does.
func wordEnd(s string, at int) int {
	for at < len(s) && isWordByte(s[at]) {
		at++
	}
	return at
}

// isWord says whether a text is one word and nothing else.
func isWord(s string) bool {
	return s != "" && wordEnd(s, 0) == len(s)
}

// withoutMany leaves short words and those with two s at their end, as these seldom stand for many.
func withoutMany(s string) string {
	n := len(s)
	if n > 3 && s[n-1] == 's' && s[n-2] != 's' {
		return s[:n-1]
	}
	return s
}

// isFiller says whether a word stands in so many texts that nobody looks for it.
func isFiller(s string) bool {
	switch s {
	case "a", "an", "and", "of", "the", "to":
		return true
	}
	return false
}

func isWordByte(b byte) bool {
	return isSmall(b) || isGreat(b) || isFigure(b)
}

func isSmall(b byte) bool {
	return 'a' <= b && b <= 'z'
}

func isGreat(b byte) bool {
	return 'A' <= b && b <= 'Z'
}

func isFigure(b byte) bool {
	return '0' <= b && b <= '9'
}
