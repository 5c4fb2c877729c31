package tests

import (
	"math/rand"
	"strings"
)

// allBytes is each byte once, in order.
func allBytes() string {
	var out strings.Builder
	for i := range 256 {
		out.WriteByte(byte(i))
	}
	return out.String()
}

// sampleTexts is ordinary texts, edges, and texts with bytes that no document may have.
func sampleTexts() []string {
	list := []string{
		"", " ", "a", "A", "s", "S", "7", "-", "The red apples of 7", "Red-apple, x9", "GLASS glass Glasses",
		"to the and of an a", "x\ny\tz", "caf\xc3\xa9s", "\xff\xfe\x80", "a\x00b", "@[`{/:", "azAZ09",
		strings.Repeat("abc ", 40), strings.Repeat("z", 60), strings.Repeat("S", 61), "abcdefghijks", "abcdefghijkls",
		"abcdefghijksxyz", "abcdefghijssxyz", "  ahead", "behind  ", "a=b;c,d", "\x7f~\x1f ", allBytes(),
	}
	return append(list, randomTexts(60, " aAbsSzZ09-.\n\x80\xff", 20)...)
}

// randomTexts is made from one seed, so that each run asks the same.
func randomTexts(many int, bytes string, longest int) []string {
	r := rand.New(rand.NewSource(1))
	var list []string
	for range many {
		b := make([]byte, r.Intn(longest+1))
		for i := range b {
			b[i] = bytes[r.Intn(len(bytes))]
		}
		list = append(list, string(b))
	}
	return list
}

// sampleWords is words: letters and figures alone, one at least.
func sampleWords() []string {
	list := []string{
		"a", "an", "and", "of", "the", "to", "The", "AND", "thes", "ands", "tos", "ofs", "ans", "as", "s", "ss", "sss", "ssss",
		"bus", "buss", "buses", "glass", "Apples", "apple", "trees", "7", "7s", "77s", "777s", "777", "x9",
		"abcdefghijk", "abcdefghijks", "abcdefghijkl", "abcdefghijkls", "abcdefghijksx", "abcdefghijssx", "abcdefghijss",
		"verylongwordindeed", strings.Repeat("s", 12), strings.Repeat("s", 13), strings.Repeat("Z", 61),
	}
	for _, s := range randomTexts(300, "aAnNdDtThHeEsSsS07", 15) {
		if s != "" {
			list = append(list, s)
		}
	}
	return list
}

// nearTexts is all texts that are one byte from a text: without one, with another one in its place, with one more.
func nearTexts(s string) []string {
	list := []string{s}
	bytes := allBytes()
	for i := range len(s) + 1 {
		for j := range len(bytes) {
			list = append(list, s[:i]+bytes[j:j+1]+s[i:])
			if i < len(s) {
				list = append(list, s[:i]+bytes[j:j+1]+s[i+1:])
			}
		}
		if i < len(s) {
			list = append(list, s[:i]+s[i+1:])
		}
	}
	return list
}

// isAscendingTexts says whether texts ascend, each once.
func isAscendingTexts(list []string) bool {
	for i := range list {
		if i > 0 && list[i-1] >= list[i] {
			return false
		}
	}
	return true
}
