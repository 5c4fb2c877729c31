package tests

import (
	"regexp"
	"slices"
	"strings"
	"testing"

	"loop.example/spandrel/impl"
)

func TestLimitsOfTexts(t *testing.T) {
	if impl.TextMax != 60 || impl.WordMax != 12 {
		t.Error(impl.TextMax, impl.WordMax)
	}
}

func TestP1FoldEachByte(t *testing.T) {
	for i := range 256 {
		want := byte(i)
		if i >= 65 && i <= 90 {
			want += 32
		}
		if got := impl.Fold(string([]byte{byte(i)})); got != string([]byte{want}) {
			t.Errorf("byte %d: %q", i, got)
		}
	}
}

func TestP1FoldOfTexts(t *testing.T) {
	great := regexp.MustCompile("[A-Z]")
	for _, a := range sampleTexts() {
		f := impl.Fold(a)
		if len(f) != len(a) || great.MatchString(f) || impl.Fold(f) != f {
			t.Errorf("%q: %q", a, f)
		}
		for _, b := range sampleTexts() {
			if impl.Fold(a+b) != f+impl.Fold(b) {
				t.Errorf("%q and %q", a, b)
			}
		}
	}
	if s := impl.Fold("Red APPLES \xc3\x89 7"); s != "red apples \xc3\x89 7" {
		t.Errorf("%q", s)
	}
}

func TestP2WordsOfATable(t *testing.T) {
	for _, c := range []struct {
		text string
		want []impl.Word
	}{
		{"", nil},
		{" \n-\xff\x00", nil},
		{"x", []impl.Word{{Text: "x", From: 0, To: 1}}},
		{"Red-apple, x9", []impl.Word{{Text: "Red", From: 0, To: 3}, {Text: "apple", From: 4, To: 9}, {Text: "x9", From: 11, To: 13}}},
		{" a\x80B ", []impl.Word{{Text: "a", From: 1, To: 2}, {Text: "B", From: 3, To: 4}}},
		{"@A[`z{/0:9", []impl.Word{{Text: "A", From: 1, To: 2}, {Text: "z", From: 4, To: 5}, {Text: "0", From: 7, To: 8}, {Text: "9", From: 9, To: 10}}},
		{strings.Repeat("q", 100), []impl.Word{{Text: strings.Repeat("q", 100), From: 0, To: 100}}},
	} {
		if got := impl.Words(c.text); !slices.Equal(got, c.want) {
			t.Errorf("%q: %v", c.text, got)
		}
	}
}

func TestP2WordsStandWhereTheyAreTold(t *testing.T) {
	pattern := regexp.MustCompile("[A-Za-z0-9]+")
	for _, s := range sampleTexts() {
		words := impl.Words(s)
		places := pattern.FindAllStringIndex(s, -1)
		if len(words) != len(places) {
			t.Errorf("%q: %v", s, words)
			continue
		}
		for i, w := range words {
			if w.From != places[i][0] || w.To != places[i][1] || w.Text != s[w.From:w.To] {
				t.Errorf("%q: %v", s, w)
			}
			if i > 0 && words[i-1].To >= w.From {
				t.Errorf("%q: %v touches the one ahead", s, w)
			}
		}
	}
}

func TestP3WordsOfTwoTexts(t *testing.T) {
	for _, a := range sampleTexts() {
		for _, b := range sampleTexts() {
			want := impl.Words(a)
			for _, w := range impl.Words(b) {
				want = append(want, impl.Word{Text: w.Text, From: w.From + len(a) + 1, To: w.To + len(a) + 1})
			}
			if got := impl.Words(a + " " + b); !slices.Equal(got, want) {
				t.Errorf("%q and %q: %v", a, b, got)
			}
			terms := append(impl.Terms(a), impl.Terms(b)...)
			if got := impl.Terms(a + " " + b); !slices.Equal(got, terms) {
				t.Errorf("%q and %q: %q", a, b, got)
			}
		}
	}
}

func TestP4StemOfATable(t *testing.T) {
	for _, c := range [][2]string{
		{"", ""}, {"a", ""}, {"An", ""}, {"AND", ""}, {"of", ""}, {"The", ""}, {"tO", ""},
		{"thes", ""}, {"Ands", ""}, {"ans", "ans"}, {"ofs", "ofs"}, {"tos", "tos"}, {"as", "as"},
		{"s", "s"}, {"ss", "ss"}, {"sss", "sss"}, {"ssss", "ssss"}, {"bus", "bus"}, {"busS", "buss"}, {"Buses", "buse"},
		{"glass", "glass"}, {"apples", "apple"}, {"7", "7"}, {"777s", "777"}, {"77s", "77s"},
		{"abcdefghijkl", "abcdefghijkl"}, {"abcdefghijklm", "abcdefghijkl"},
		{"abcdefghijks", "abcdefghijk"}, {"abcdefghijksxyz", "abcdefghijk"}, {"abcdefghijkss", "abcdefghijk"},
		{"abcdefghijss", "abcdefghijss"}, {"abcdefghijssx", "abcdefghijss"}, {"abcdefghijkls", "abcdefghijkl"},
		{"Two words", "two word"}, {"\xff\x00\nS", "\xff\x00\n"}, {"the ", "the "},
	} {
		if got := impl.Stem(c[0]); got != c[1] {
			t.Errorf("%q: %q", c[0], got)
		}
	}
}

func TestP4StemStays(t *testing.T) {
	for _, w := range sampleWords() {
		s := impl.Stem(w)
		if impl.Stem(strings.ToUpper(w)) != s || impl.Stem(strings.ToLower(w)) != s {
			t.Errorf("%q: great and small letters", w)
		}
		if impl.Stem(s) != s || len(s) > impl.WordMax {
			t.Errorf("%q: %q", w, s)
		}
		if s != "" && !impl.TermOk(s) {
			t.Errorf("%q: %q is not looked for", w, s)
		}
		if impl.TermOk(w) && s != w {
			t.Errorf("%q: %q", w, s)
		}
	}
}

func TestP4TermOk(t *testing.T) {
	for _, s := range []string{"apple", "7", "x9", "bus", "glass", "s", "tos", "abcdefghijkl", "abcdefghijss"} {
		if !impl.TermOk(s) {
			t.Errorf("%q", s)
		}
	}
	for _, s := range []string{"", " ", "Apple", "apples", "a", "an", "and", "of", "the", "to", "a b", "red ", " red", "re-d", "red\n", "caf\xc3\xa9", "abcdefghijklm", "abcdefghijks", "\x00"} {
		if impl.TermOk(s) {
			t.Errorf("%q is told", s)
		}
	}
	for _, s := range sampleTexts() {
		words := impl.Words(s)
		want := len(words) == 1 && words[0].Text == s && impl.Stem(s) == s
		if impl.TermOk(s) != want {
			t.Errorf("%q: %v", s, !want)
		}
	}
}

func TestP5TermsAreStemsOfWords(t *testing.T) {
	if got := impl.Terms("The red Apples of 7"); !slices.Equal(got, []string{"", "red", "apple", "", "7"}) {
		t.Errorf("%q", got)
	}
	for _, s := range []string{"", "-", "\xff \x01"} {
		if got := impl.Terms(s); len(got) != 0 {
			t.Errorf("%q: %q", s, got)
		}
	}
	for _, s := range sampleTexts() {
		var want []string
		for _, w := range impl.Words(s) {
			want = append(want, impl.Stem(w.Text))
		}
		if got := impl.Terms(s); !slices.Equal(got, want) {
			t.Errorf("%q: %q", s, got)
		}
	}
	for _, w := range sampleWords() {
		if got := impl.Terms(w); !slices.Equal(got, []string{impl.Stem(w)}) {
			t.Errorf("%q: %q", w, got)
		}
	}
}

// A word that ends with s already is left out: the chapter leaves two s at the end as they are.
func TestP62OneAndMany(t *testing.T) {
	for _, w := range sampleWords() {
		if len(w) < 3 || strings.HasSuffix(strings.ToLower(w), "s") {
			continue
		}
		if impl.Stem(w+"s") != impl.Stem(w) || impl.Stem(w+"S") != impl.Stem(w) {
			t.Errorf("%q: %q and %q", w, impl.Stem(w), impl.Stem(w+"s"))
		}
	}
	for _, c := range [][2]string{{"bus", "buss"}, {"to", "tos"}, {"glass", "glasss"}} {
		if impl.Stem(c[1]) != c[1] {
			t.Errorf("%q: %q", c[1], impl.Stem(c[1]))
		}
	}
}
