package tests

import (
	"fmt"
	"regexp"
	"slices"
	"strings"
	"testing"

	"loop.example/spandrel/impl"
)

// written is a question and its text.
type written struct {
	q    impl.Query
	text string
}

// writtenQueries is each kind of question, at its limits, too.
func writtenQueries() []written {
	all, red := impl.Query{Kind: impl.QueryAll}, wordOf("", "red")
	long, word := strings.Repeat("Xy9", 20), strings.Repeat("z", impl.WordMax)
	phrase := strings.Repeat("a", 57) + " b"
	return []written{
		{all, "*"},
		{red, "red"}, {wordOf("title", "red"), "title:red"}, {wordOf("abcdefg8", "RED"), "abcdefg8:RED"}, {wordOf("", "9"), "9"}, {wordOf("", long), long}, {wordOf("title", long), "title:" + long}, {wordOf("red", "red"), "red:red"},
		{phraseOf("", "red apple"), `"red apple"`}, {phraseOf("title", "Red apple"), `title:"Red apple"`}, {phraseOf("", "of the"), `"of the"`}, {phraseOf("", "a b c d"), `"a b c d"`}, {phraseOf("", phrase+"c"), `"` + phrase + `c"`},
		{beginOf("", "re"), "re*"}, {beginOf("body", "9"), "body:9*"}, {beginOf("", "the"), "the*"}, {beginOf("", word), word + "*"}, {beginOf("", "apples"), "apples*"},
		{numOf("price", -5, 7), "@price:-5..7"}, {numOf("p", 0, 0), "@p:0..0"}, {numOf("p", 7, -7), "@p:7..-7"}, {numOf("p", -impl.NumMax, impl.NumMax), "@p:-999999999..999999999"},
		{tagOf("color", "red"), "@color:{red}"}, {tagOf("c", "abcdefg8"), "@c:{abcdefg8}"},
		{bothOf(red, all), "(red *)"}, {someOf(red, all), "(red | *)"}, {bothOf(red, red, red, red), "(red red red red)"}, {someOf(red, red, all, red), "(red | red | * | red)"},
		{notOf(red), "-red"}, {notOf(notOf(notOf(all))), "---*"}, {notOf(numOf("p", -1, 1)), "-@p:-1..1"},
		{bothOf(red, notOf(someOf(wordOf("title", "Apples"), phraseOf("", "pie of the"))), beginOf("", "tr"), numOf("price", -5, 7)), `(red -(title:Apples | "pie of the") tr* @price:-5..7)`},
		{someOf(bothOf(notOf(red), beginOf("t", "x")), phraseOf("", "a b")), `((-red t:x*) | "a b")`},
		{bothOf(bothOf(bothOf(red, all), all), someOf(all, someOf(all, all))), "(((red *) *) (* | (* | *)))"},
	}
}

// wrongQueries is questions that are not ok in one way each.
func wrongQueries() []impl.Query {
	all, red := impl.Query{Kind: impl.QueryAll}, wordOf("", "red")
	long := strings.Repeat("z", impl.TextMax+1)
	list := []impl.Query{
		{}, {Kind: 10}, {Kind: -1}, {Kind: 1 << 40}, {Field: "title", Text: "red"},
		wordOf("", ""), wordOf("", "the"), wordOf("", "The"), wordOf("", "thes"), wordOf("", "red "), wordOf("", " red"), wordOf("", "red apple"), wordOf("", "re-d"), wordOf("", "r\xc3\xa9d"), wordOf("", "red*"), wordOf("", long), wordOf("", "\""), wordOf("", "a\x00"),
		phraseOf("", ""), phraseOf("", "red"), phraseOf("", "red  apple"), phraseOf("", " red apple"), phraseOf("", "red apple "), phraseOf("", "a b c d e"), phraseOf("", "red\tapple"), phraseOf("", "red-apple"), phraseOf("", "red ap-ple"), phraseOf("", strings.Repeat("a", 58)+" bc"), phraseOf("", " "), phraseOf("", "red  "),
		beginOf("", ""), beginOf("", "Re"), beginOf("", "rE"), beginOf("", "re d"), beginOf("", "re*"), beginOf("", strings.Repeat("z", impl.WordMax+1)), beginOf("", "r-"), beginOf("", "Z"), beginOf("", long),
		numOf("", 1, 2), numOf("Price", 1, 2), numOf("p", -impl.NumMax-1, 0), numOf("p", impl.NumMax+1, 0), numOf("p", 0, impl.NumMax+1), numOf("p", 0, -impl.NumMax-1), numOf("p", -1<<63, 1<<63-1), numOf("abcdefghi", 0, 0),
		tagOf("", "red"), tagOf("color", ""), tagOf("color", "Red"), tagOf("color", "red,blue"), tagOf("9", "red"), tagOf("color", "abcdefghi"), tagOf("color", "9"), tagOf("c c", "red"),
		bothOf(), bothOf(red), someOf(), someOf(red), bothOf(red, red, red, red, red), someOf(red, red, red, red, red), {Kind: impl.QueryNot}, {Kind: impl.QueryNot, Parts: []impl.Query{red, red}},
		bothOf(red, impl.Query{}), someOf(impl.Query{}, red), notOf(impl.Query{}), notOf(wordOf("", "the")), bothOf(all, bothOf(red, wordOf("", "")), all),
		notOf(notOf(notOf(notOf(red)))), bothOf(red, someOf(red, notOf(bothOf(red, red)))), someOf(bothOf(someOf(bothOf(red, red), red), red), red),
		roundQuery(impl.QueryNot, 1), roundQuery(impl.QueryAnd, 2), roundQuery(impl.QueryOr, 4),
	}
	for _, kind := range []impl.Query{red, phraseOf("", "red apple"), beginOf("", "re")} {
		for _, field := range []string{"Title", "9a", "a b", "abcdefghi", " ", "a:", "\x00"} {
			kind.Field = field
			list = append(list, kind)
		}
	}
	return append(list, withTooMuch()...)
}

// withTooMuch is questions with one thing each that their kind has no use for.
func withTooMuch() []impl.Query {
	red := wordOf("", "red")
	var list []impl.Query
	for _, q := range []impl.Query{{Kind: impl.QueryAll}, red, phraseOf("", "red apple"), beginOf("", "re"), numOf("price", 1, 2), tagOf("color", "red"), bothOf(red, red), someOf(red, red), notOf(red)} {
		low, high, parts, field, text := q, q, q, q, q
		low.Low, high.High = 1, -1
		field.Field, text.Text = "title", "red"
		parts.Parts = []impl.Query{red}
		if q.Kind != impl.QueryNum {
			list = append(list, low, high)
		}
		if len(q.Parts) == 0 {
			list = append(list, parts)
		}
		if q.Kind == impl.QueryAll || len(q.Parts) > 0 {
			list = append(list, field, text)
		}
		if q.Kind == impl.QueryNum {
			list = append(list, text)
		}
	}
	return list
}

func TestLimitsOfQuestions(t *testing.T) {
	if s := fmt.Sprint(impl.DeepMax, impl.PartMax, impl.QueryMax, impl.QueryAll, impl.QueryWord, impl.QueryPhrase, impl.QueryBegin, impl.QueryNum, impl.QueryTag, impl.QueryAnd, impl.QueryOr, impl.QueryNot); s != "4 4 200 1 2 3 4 5 6 7 8 9" {
		t.Error(s)
	}
}

func TestP24QuestionsAreReadBack(t *testing.T) {
	for _, w := range writtenQueries() {
		if got := impl.QueryPut(w.q); got != w.text || !impl.QueryOk(w.q) {
			t.Errorf("%s: %s", w.text, got)
		}
		if got, ok := impl.QueryGet(w.text); !ok || !queryEqual(got, w.q) {
			t.Errorf("%s: %v %v", w.text, got, ok)
		}
	}
	c := chanceOf(24)
	for range 3000 {
		q := c.question(impl.DeepMax)
		text := impl.QueryPut(q)
		got, ok := impl.QueryGet(text)
		if fits := len(text) <= impl.QueryMax; text == "" || ok != fits || fits && !queryEqual(got, q) || !fits && !queryEqual(got, impl.Query{}) {
			t.Errorf("%s: %v", text, got)
		}
	}
}

func TestP24QuestionsThatAreNotOk(t *testing.T) {
	for _, q := range wrongQueries() {
		if impl.QueryOk(q) || impl.QueryPut(q) != "" || impl.QueryFits(sampleFields(), q) || len(impl.QueryTerms(q)) != 0 {
			t.Errorf("%d %q %q %d..%d is ok", q.Kind, q.Field, q.Text, q.Low, q.High)
		}
		if turned, ok := impl.QueryTurn(q); ok || !queryEqual(turned, impl.Query{}) {
			t.Errorf("%d %q %q is turned", q.Kind, q.Field, q.Text)
		}
		if impl.Meets(sampleFields(), sampleDoc(), q) || len(impl.Find(mixedIndex(t), q)) != 0 {
			t.Errorf("%d %q %q is met", q.Kind, q.Field, q.Text)
		}
	}
	empty := impl.Query{Kind: impl.QueryAll, Parts: []impl.Query{}}
	if !impl.QueryOk(empty) {
		t.Error("an empty list is none")
	}
}

func TestP24HowLongAQuestionIs(t *testing.T) {
	long := strings.Repeat("a", impl.TextMax)
	at := func(last string) string { return "(" + long + " " + long + " " + long + " " + last + ")" }
	just := at(strings.Repeat("b", impl.QueryMax-len(at(""))))
	if len(just) != impl.QueryMax {
		t.Fatal(len(just))
	}
	if q, ok := impl.QueryGet(just); !ok || impl.QueryPut(q) != just {
		t.Error("as long as it may be")
	}
	over := strings.Replace(just, "b", "bb", 1)
	if q, ok := impl.QueryGet(over); ok || !queryEqual(q, impl.Query{}) {
		t.Error("one byte more")
	}
	q := bothOf(wordOf("", long), wordOf("", long), wordOf("", long), wordOf("", long))
	if s := impl.QueryPut(q); len(s) != 245 || !impl.QueryOk(q) {
		t.Errorf("a longer one is written: %q", s)
	}
	for _, s := range []string{strings.Repeat("-", 200), strings.Repeat("(", 200), strings.Repeat("-", 100000), strings.Repeat("(", 100000), strings.Repeat("x", 201), "---" + strings.Repeat("x", 60)} {
		if _, ok := impl.QueryGet(s); ok != (s[0] == '-' && len(s) == 63) {
			t.Errorf("%.20q of %d: %v", s, len(s), ok)
		}
	}
}

const wordPattern = "[a-zA-Z0-9]{1,60}"

var (
	soughtPattern = regexp.MustCompile(`\A(?:` + namePattern + `:)?(?:` + wordPattern + `|"` + wordPattern + `(?: ` + wordPattern + `){1,3}"|[a-z0-9]{1,12}\*)\z`)
	fieldPattern  = regexp.MustCompile(`\A@` + namePattern + `:(?:\{` + namePattern + `\}|(?:0|-?[1-9][0-9]{0,8})\.\.(?:0|-?[1-9][0-9]{0,8}))\z`)
	oneWord       = regexp.MustCompile(`\A(?:.*:)?([a-zA-Z0-9]+)\z`)
	ofWords       = regexp.MustCompile(`"(.*)"`)
)

// isQuestion says whether a text is a question, by all ways in which it may be taken apart.
func isQuestion(s string, deep int) bool {
	if deep == 0 || s == "" {
		return false
	}
	if s[0] == '-' {
		return isQuestion(s[1:], deep-1)
	}
	if s[0] == '(' && s[len(s)-1] == ')' {
		inner := s[1 : len(s)-1]
		return areQuestions(inner, " ", deep-1, 2, impl.PartMax) || areQuestions(inner, " | ", deep-1, 2, impl.PartMax)
	}
	if m := ofWords.FindStringSubmatch(s); m != nil && len(m[1]) > impl.TextMax {
		return false
	}
	if m := oneWord.FindStringSubmatch(s); m != nil && impl.Stem(m[1]) == "" {
		return false
	}
	return s == "*" || soughtPattern.MatchString(s) || fieldPattern.MatchString(s)
}

func areQuestions(s string, between string, deep int, least int, most int) bool {
	if least <= 1 && isQuestion(s, deep) {
		return true
	}
	for i := range len(s) {
		if most > 1 && strings.HasPrefix(s[i:], between) && isQuestion(s[:i], deep) && areQuestions(s[i+len(between):], between, deep, least-1, most-1) {
			return true
		}
	}
	return false
}

func TestP24TextsThatAreNearlyQuestions(t *testing.T) {
	list := append(sampleTexts(),
		"", " ", "the", "(red)", "-", "--", "\"red\"", "\"red", "red\"", "@price:1..", "@price:..1", "@price:01..2", "@price:1..02", "@price:-0..2", "@price:1..-0", "@price:1..1000000000", "@price:-1000000000..1", "@price:1.2", "@price:1...2", "@price:+1..2", "@price:--1..2", "@price: 1..2",
		"@color:{}", "@color:{red", "@color:red}", "@color:{Red}", "@color:{red,blue}", "@:{red}", "@color{red}", "@color:", "@", "@@color:{red}", "@color:{red}x", "@1..2", "color:{red}", "price:1..2",
		"(a b", "a b)", "(red | blue", "red blue", "red | blue", "(red  blue)", "( red blue)", "(red blue )", "(red|blue)", "(red |blue)", "(red| blue)", "(red | blue green)", "(red blue | green)", "(red |  blue)", "(red  | blue)", "( | red)", "(red | )", "()", "( )", "(red red red red red)", "(red | red | red | red | red)",
		"Red*", "red**", "*red", "**", "title:*", "title:", ":red", "title::red", "a:b:c", "Title:red", "title: red", "title :red", "9t:red", "abcdefghi:red", "title:-red", "title:(red blue)", "title:\"red\"", "title:@price:1..2", "-title:red", "title:the",
		"----x", "---x", "- x", "x-", "-(x)", "(x y)z", "(x y)*", "\"x y\"*", "\"x y\"z", "z\"x y\"", "\"x  y\"", "\" x y\"", "\"x y \"", "\"x y z a b\"", "\"x-y z\"", "\"\"", "\"", "red\n", "\nred", "r\xc3\xa9d", "red\x00", "((x y))", "(((x y) z) (x | (y | z)))", "((((x y) z) x) x)",
		strings.Repeat("z", 60), strings.Repeat("z", 61), strings.Repeat("z", 12)+"*", strings.Repeat("z", 13)+"*", `"`+strings.Repeat("z", 58)+` z"`, `"`+strings.Repeat("z", 59)+` z"`)
	for _, w := range writtenQueries() {
		if len(w.text) < 50 {
			list = append(list, nearTexts(w.text)...)
		}
	}
	list = append(list, randomTexts(20000, `rre d9-*|()@:"{}.01`, 12)...)
	read := 0
	for _, s := range list {
		got, ok := impl.QueryGet(s)
		if want := isQuestion(s, impl.DeepMax); ok != want || ok && (impl.QueryPut(got) != s || !impl.QueryOk(got)) || !ok && !queryEqual(got, impl.Query{}) {
			t.Errorf("%q: %v %v", s, got, ok)
		}
		if ok {
			read++
		}
	}
	if read < 1000 {
		t.Errorf("only %d were questions", read)
	}
}

// notFitting is questions that are ok, and ask of fields that are not there, or of another kind.
func notFitting() []impl.Query {
	var list []impl.Query
	for _, field := range []string{"price", "color", "zz", "titl", "titles"} {
		list = append(list, wordOf(field, "red"), phraseOf(field, "red apple"), beginOf(field, "re"))
	}
	for _, field := range []string{"title", "body", "color", "zz"} {
		list = append(list, numOf(field, -9, 9))
	}
	for _, field := range []string{"title", "body", "price", "zz"} {
		list = append(list, tagOf(field, "red"))
	}
	for _, q := range slices.Clone(list) {
		list = append(list, notOf(q), bothOf(wordOf("", "red"), q), someOf(q, wordOf("", "red")), notOf(bothOf(tagOf("color", "red"), notOf(q))))
	}
	return list
}

func TestP25WhatFits(t *testing.T) {
	fields := sampleFields()
	c := chanceOf(25)
	for range 1000 {
		q := c.question(impl.DeepMax)
		if !impl.QueryFits(fields, q) || !impl.QueryOk(q) {
			t.Errorf("%s does not fit", impl.QueryPut(q))
		}
		for _, p := range q.Parts {
			if !impl.QueryFits(fields, p) || !impl.QueryOk(p) {
				t.Errorf("%s does not fit", impl.QueryPut(p))
			}
		}
		for _, list := range wrongFields() {
			if impl.QueryFits(list, q) {
				t.Errorf("%s fits %v", impl.QueryPut(q), list)
			}
		}
	}
	for _, q := range notFitting() {
		if impl.QueryFits(fields, q) || !impl.QueryOk(q) {
			t.Errorf("%s fits", impl.QueryPut(q))
		}
	}
	num := []impl.Field{{Name: "n", Kind: impl.FieldNum}}
	for _, q := range []impl.Query{{Kind: impl.QueryAll}, wordOf("", "red"), phraseOf("", "a b"), beginOf("", "x"), numOf("n", 1, 2), notOf(numOf("n", 1, 2))} {
		if !impl.QueryFits(num, q) {
			t.Errorf("%s does not fit where there are no texts", impl.QueryPut(q))
		}
	}
}

func TestP26WordsThatAreLookedFor(t *testing.T) {
	for _, c := range [][2]string{
		{"*", ""}, {"Reds", "red"}, {"title:Apples", "apple"}, {`"pie of Apples"`, "apple,pie"}, {`"of the"`, ""}, {`"red reds RED"`, "red"}, {"re*", ""}, {"@price:1..2", ""}, {"@color:{red}", ""},
		{"-red", ""}, {"--red", ""}, {`(red "pie of Apples" -tree)`, "apple,pie,red"}, {"(tree | (pie | apple))", "apple,pie,tree"}, {"(-(red apple) | pie)", "pie"}, {"(x9 x x10 9)", "9,x,x10,x9"}, {"verylongwordindeed", "verylongword"}, {"((a1 red) | (red a1))", "a1,red"},
	} {
		q, ok := impl.QueryGet(c[0])
		if got := strings.Join(impl.QueryTerms(q), ","); !ok || got != c[1] {
			t.Errorf("%s: %s", c[0], got)
		}
	}
	c := chanceOf(26)
	for range 2000 {
		q := c.question(impl.DeepMax)
		terms := impl.QueryTerms(q)
		if !isAscendingTexts(terms) || slices.ContainsFunc(terms, func(s string) bool { return !impl.TermOk(s) }) || q.Kind == impl.QueryNot && len(terms) != 0 {
			t.Errorf("%s: %q", impl.QueryPut(q), terms)
		}
	}
}

func TestQuestionsAreTurned(t *testing.T) {
	for _, c := range [][2]string{
		{"*", "-*"}, {"red", "-red"}, {"-red", "red"}, {"--red", "-red"}, {"title:\"a b\"", "-title:\"a b\""}, {"re*", "-re*"}, {"@price:1..2", "-@price:1..2"}, {"@color:{red}", "-@color:{red}"},
		{"(red -apple)", "(-red | apple)"}, {"(red | -apple)", "(-red apple)"}, {"((a1 b) | -c)", "((-a1 | -b) c)"}, {"-(red blue)", "(red blue)"}, {"(x y z w)", "(-x | -y | -z | -w)"},
		{"((-x -y) z)", "((x | y) | -z)"}, {"---x", "--x"}, {"(--x y)", "(-x | -y)"}, {"(a1 (b | -c))", "(-a1 | (-b c))"}, {"(-(x y) z)", "((x y) | -z)"},
		{"(((x y) z) w)", ""}, {"(z | (x (y | w)))", ""}, {"(-z | (-x (y | w)))", ""},
	} {
		q, ok := impl.QueryGet(c[0])
		turned, fine := impl.QueryTurn(q)
		if !ok || fine != (c[1] != "") || impl.QueryPut(turned) != c[1] || !fine && !queryEqual(turned, impl.Query{}) {
			t.Errorf("%s: %s %v", c[0], impl.QueryPut(turned), fine)
		}
	}
	c := chanceOf(70)
	for range 2000 {
		q := c.question(impl.DeepMax)
		turned, ok := impl.QueryTurn(q)
		if ok != (turnedDepth(q) <= impl.DeepMax) || ok && !impl.QueryOk(turned) || !ok && !queryEqual(turned, impl.Query{}) {
			t.Errorf("%s: %v", impl.QueryPut(q), turned)
		}
	}
}

// turnedDepth is how deep a question lies when it is turned.
func turnedDepth(q impl.Query) int {
	switch q.Kind {
	case impl.QueryNot:
		return depthOf(q) - 1
	case impl.QueryAnd, impl.QueryOr:
		most := 0
		for _, p := range q.Parts {
			most = max(most, turnedDepth(p))
		}
		return most + 1
	}
	return 2
}

func depthOf(q impl.Query) int {
	most := 0
	for _, p := range q.Parts {
		most = max(most, depthOf(p))
	}
	return most + 1
}
