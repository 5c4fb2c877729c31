package tests

import (
	"math/rand"
	"slices"
	"strconv"
	"strings"
	"testing"

	"loop.example/spandrel/impl"
)

// docOf reads a document from a text with `; ` in the place of newlines.
func docOf(t testing.TB, text string) impl.Doc {
	t.Helper()
	d, ok := impl.DocGet(strings.ReplaceAll(text, "; ", "\n"))
	if !ok {
		t.Fatalf("no document: %q", text)
	}
	return d
}

// indexWith is an index of fields into which documents were put, one behind the other.
func indexWith(t testing.TB, fields []impl.Field, docs ...impl.Doc) impl.Index {
	t.Helper()
	x, ok := impl.IndexNew(fields)
	if !ok {
		t.Fatalf("no fields: %v", fields)
	}
	for _, d := range docs {
		y, _, put := impl.IndexPut(x, d)
		if !put {
			t.Fatalf("%v is not put in", d)
		}
		x = y
	}
	return x
}

// sampleDocs is documents with words that nothing is looked for by between others, words twice, the same words in unlike fields, and nothing.
func sampleDocs(t testing.TB) []impl.Doc {
	return []impl.Doc{
		docOf(t, "a; color=red; price=5; title=Red apples"),
		docOf(t, "b; body=an apple pie; color=blue,red; title=Pie"),
		docOf(t, "c; body=the red tree of red; price=-3"),
		docOf(t, "d; body=To the; title=of RED"),
		docOf(t, "e"),
		docOf(t, "f; body=; color=green; price=999999999; title=... --"),
		docOf(t, "g; body=b b b b b b b b b b b b b b b b b b b b b b b b b b b b b b; price=-999999999"),
		docOf(t, "h; body=verylongwordindeed verylongwordsare x9 9x; title=apple a pie"),
	}
}

// chance makes documents and questions from a seed, so that each run asks the same.
type chance struct {
	*rand.Rand
}

func chanceOf(seed int64) chance {
	return chance{rand.New(rand.NewSource(seed))}
}

func (c chance) oneOf(list ...string) string {
	return list[c.Intn(len(list))]
}

// word is one of few, so that the same ones meet often.
func (c chance) word() string {
	return c.oneOf("a", "the", "The", "of", "red", "reds", "Red", "tree", "trees", "pie", "apple", "Apples", "ab", "abc", "x9", "9", "verylongwordindeed", "verylongwordsare", "pies", "s", "ss")
}

func (c chance) words(least int, most int) string {
	var list []string
	for range least + c.Intn(most-least+1) {
		list = append(list, c.word())
	}
	return strings.Join(list, " ")
}

func (c chance) text() string {
	s := strings.ReplaceAll(c.words(0, 8), " ", c.oneOf(" ", "  ", ", ", "-"))
	return s[:min(len(s), impl.TextMax)]
}

func (c chance) number() int {
	switch c.Intn(8) {
	case 0:
		return impl.NumMax
	case 1:
		return -impl.NumMax
	}
	return c.Intn(9) - 4
}

func (c chance) tag() string {
	return c.oneOf("red", "blue", "green", "x9")
}

// doc is a document by sampleFields.
func (c chance) doc(key string) impl.Doc {
	d := impl.Doc{Key: key}
	texts := []impl.Cell{{Name: "body", Text: c.text()}, {Name: "color", Text: c.tag() + "," + c.tag()}, {Name: "price", Text: strconv.Itoa(c.number())}, {Name: "title", Text: c.text()}}
	for _, cell := range texts {
		if c.Intn(3) > 0 {
			d.Cells = append(d.Cells, cell)
		}
	}
	return d
}

// docs is up to DocMax documents of unlike keys.
func (c chance) docs() []impl.Doc {
	var list []impl.Doc
	for i := range c.Intn(impl.DocMax + 1) {
		list = append(list, c.doc("k"+strconv.Itoa(i)))
	}
	c.Shuffle(len(list), func(i int, j int) { list[i], list[j] = list[j], list[i] })
	return list
}

// leaf is a question without parts that fits sampleFields.
func (c chance) leaf() impl.Query {
	field := c.oneOf("", "title", "body")
	switch c.Intn(10) {
	case 0:
		return impl.Query{Kind: impl.QueryAll}
	case 1, 2:
		text := c.words(2, 4)
		for len(text) > impl.TextMax {
			text = c.words(2, 4)
		}
		return impl.Query{Kind: impl.QueryPhrase, Field: field, Text: text}
	case 3, 4:
		return impl.Query{Kind: impl.QueryBegin, Field: field, Text: c.oneOf("r", "re", "red", "reds", "a", "ap", "apples", "the", "verylongword", "9", "x", "s", "zz")}
	case 5:
		return impl.Query{Kind: impl.QueryNum, Field: "price", Low: c.number(), High: c.number()}
	case 6:
		return impl.Query{Kind: impl.QueryTag, Field: "color", Text: c.tag()}
	}
	text := c.word()
	for impl.Stem(text) == "" {
		text = c.word()
	}
	return impl.Query{Kind: impl.QueryWord, Field: field, Text: text}
}

// question is one that fits sampleFields, at most so deep.
func (c chance) question(deep int) impl.Query {
	if deep == 1 || c.Intn(3) == 0 {
		return c.leaf()
	}
	kind, many := impl.QueryNot, 1
	if n := c.Intn(3); n > 0 {
		kind, many = impl.QueryAnd+n-1, 2+c.Intn(impl.PartMax-1)
	}
	q := impl.Query{Kind: kind}
	for range many {
		q.Parts = append(q.Parts, c.question(deep-1))
	}
	return q
}

func notOf(q impl.Query) impl.Query {
	return impl.Query{Kind: impl.QueryNot, Parts: []impl.Query{q}}
}

func bothOf(parts ...impl.Query) impl.Query {
	return impl.Query{Kind: impl.QueryAnd, Parts: parts}
}

func someOf(parts ...impl.Query) impl.Query {
	return impl.Query{Kind: impl.QueryOr, Parts: parts}
}

func wordOf(field string, text string) impl.Query {
	return impl.Query{Kind: impl.QueryWord, Field: field, Text: text}
}

func phraseOf(field string, text string) impl.Query {
	return impl.Query{Kind: impl.QueryPhrase, Field: field, Text: text}
}

func beginOf(field string, text string) impl.Query {
	return impl.Query{Kind: impl.QueryBegin, Field: field, Text: text}
}

func numOf(field string, low int, high int) impl.Query {
	return impl.Query{Kind: impl.QueryNum, Field: field, Low: low, High: high}
}

func tagOf(field string, text string) impl.Query {
	return impl.Query{Kind: impl.QueryTag, Field: field, Text: text}
}

// roundQuery is a question that is within itself.
func roundQuery(kind int, many int) impl.Query {
	parts := make([]impl.Query, many)
	for i := range parts {
		parts[i] = impl.Query{Kind: kind, Parts: parts}
	}
	return parts[0]
}

func queryEqual(a impl.Query, b impl.Query) bool {
	return a.Kind == b.Kind && a.Field == b.Field && a.Text == b.Text && a.Low == b.Low && a.High == b.High && slices.EqualFunc(a.Parts, b.Parts, queryEqual)
}

func postEqual(a impl.Post, b impl.Post) bool {
	return a.Doc == b.Doc && slices.Equal(a.At, b.At)
}

func postsEqual(a []impl.Post, b []impl.Post) bool {
	return slices.EqualFunc(a, b, postEqual)
}

func entryEqual(a impl.Entry, b impl.Entry) bool {
	return a.Field == b.Field && a.Term == b.Term && postsEqual(a.Posts, b.Posts)
}

func rowEqual(a impl.Row, b impl.Row) bool {
	return a.Id == b.Id && docEqual(a.Doc, b.Doc)
}

// contentEqual says whether two indexes are the same but for the next number.
func contentEqual(a impl.Index, b impl.Index) bool {
	return slices.Equal(a.Fields, b.Fields) && slices.EqualFunc(a.Rows, b.Rows, rowEqual) && slices.EqualFunc(a.Entries, b.Entries, entryEqual)
}

func indexEqual(a impl.Index, b impl.Index) bool {
	return a.Next == b.Next && contentEqual(a, b)
}
