package tests

import (
	"fmt"
	"slices"
	"strconv"
	"strings"
	"testing"

	"loop.example/spandrel/impl"
)

// findByLook is what a look at each document finds.
func findByLook(x impl.Index, q impl.Query) []int {
	var ids []int
	for _, r := range x.Rows {
		if meetsByLook(x.Fields, r.Doc, q) {
			ids = append(ids, r.Id)
		}
	}
	return ids
}

// meetsByLook says whether a document meets a question, in other ways than the program does: terms are looked for in a text of them.
func meetsByLook(fields []impl.Field, d impl.Doc, q impl.Query) bool {
	some, all := false, true
	for _, p := range q.Parts {
		met := meetsByLook(fields, d, p)
		some, all = some || met, all && met
	}
	switch q.Kind {
	case impl.QueryAll:
		return true
	case impl.QueryNum:
		text, there := impl.DocText(d, q.Field)
		n, err := strconv.Atoi(text)
		return there && err == nil && q.Low <= n && n <= q.High
	case impl.QueryTag:
		text, _ := impl.DocText(d, q.Field)
		return strings.Contains(","+text+",", ","+q.Text+",")
	case impl.QueryAnd:
		return all
	case impl.QueryOr:
		return some
	case impl.QueryNot:
		return !some
	}
	for _, f := range fields {
		if q.Field != "" && q.Field != f.Name {
			continue
		}
		terms := barredTerms(termsByLook(fields, d, f.Name))
		sought := barredTerms(impl.Terms(q.Text))
		if q.Kind == impl.QueryBegin && strings.Contains(terms, "|"+q.Text) || q.Kind != impl.QueryBegin && strings.Contains(terms, sought) {
			return true
		}
	}
	return false
}

// barredTerms is terms with a bar on either side of each, so that those side by side are a piece of it.
func barredTerms(terms []string) string {
	out := "|"
	for _, s := range terms {
		if s == "" {
			s = "_"
		}
		out += s + "|"
	}
	return out
}

// asked is an index and questions that fit it.
type asked struct {
	x  impl.Index
	qs []impl.Query
}

// sampleAsked is all indexes by sampleFields, each with questions of all kinds, also of words that it has.
func sampleAsked(t testing.TB, many int) []asked {
	var list []asked
	for i, x := range sampleIndexes(t) {
		if !slices.Equal(x.Fields, sampleFields()) {
			continue
		}
		c := chanceOf(int64(100 + i))
		a := asked{x: x}
		for range many {
			a.qs = append(a.qs, c.question(impl.DeepMax))
		}
		for _, e := range x.Entries {
			a.qs = append(a.qs, wordOf(e.Field, e.Term), wordOf("", e.Term), beginOf(e.Field, e.Term[:1]), beginOf("", e.Term))
		}
		list = append(list, a)
	}
	return list
}

func TestP30WhatIsFound(t *testing.T) {
	x := indexWith(t, sampleFields(), sampleDocs(t)...)
	for _, c := range [][2]string{
		{"*", "[0 1 2 3 4 5 6 7]"}, {"-*", "[]"}, {"red", "[0 2 3]"}, {"Reds", "[0 2 3]"}, {"title:red", "[0 3]"}, {"body:red", "[2]"}, {"green", "[]"}, {"blue", "[]"},
		{"appl*", "[0 1 7]"}, {"title:appl*", "[0 7]"}, {"body:appl*", "[1]"}, {"apples*", "[]"}, {"the*", "[]"}, {"t*", "[2]"}, {"a*", "[0 1 7]"}, {"9*", "[7]"}, {"verylongword*", "[7]"}, {"zz*", "[]"},
		{`"red apple"`, "[0]"}, {`"apple red"`, "[]"}, {`"tree of red"`, "[2]"}, {`"tree the red"`, "[2]"}, {`"tree red"`, "[]"}, {`"the red tree of"`, "[2]"}, {`"red tree of red"`, "[2]"}, {`"of red"`, "[2 3]"}, {`body:"of red"`, "[2]"}, {`"red of"`, "[]"},
		{`"of the"`, "[3]"}, {`"to a of"`, "[]"}, {`"apple pie"`, "[1]"}, {`"apple of pie"`, "[7]"}, {`"an apple pie"`, "[1]"}, {`"pie pie"`, "[]"}, {`"b b b b"`, "[6]"}, {`"b b b c"`, "[]"}, {`"verylongwords verylongwords"`, "[7]"}, {`"pie the"`, "[]"}, {`title:"apple pie"`, "[]"},
		{"-red", "[1 4 5 6 7]"}, {"(red -apple)", "[2 3]"}, {"(pie | tree)", "[1 2 7]"}, {"(pie tree)", "[]"}, {"(red -red)", "[]"}, {"(red | -red)", "[0 1 2 3 4 5 6 7]"},
		{"@price:-5..0", "[2]"}, {"@price:5..5", "[0]"}, {"@price:5..4", "[]"}, {"-@price:0..9", "[1 2 3 4 5 6 7]"}, {"@price:-999999999..999999999", "[0 2 5 6]"}, {"@price:999999999..999999999", "[5]"}, {"@price:-999999999..-999999999", "[6]"}, {"@price:6..999999998", "[]"},
		{"@color:{red}", "[0 1]"}, {"(@color:{red} @color:{blue})", "[1]"}, {"@color:{zz}", "[]"}, {"@color:{re}", "[]"}, {"-@color:{red}", "[2 3 4 5 6 7]"}, {"verylongwordthatisnot", "[7]"},
	} {
		q, ok := impl.QueryGet(c[0])
		if got := fmt.Sprint(impl.Find(x, q)); !ok || got != c[1] {
			t.Errorf("%s: %s", c[0], got)
		}
	}
	for _, a := range sampleAsked(t, 300) {
		for _, q := range a.qs {
			got := impl.Find(a.x, q)
			if want := findByLook(a.x, q); !slices.Equal(got, want) {
				t.Errorf("%s: %v, not %v, in %v", impl.QueryPut(q), got, want, a.x.Rows)
			}
			for _, r := range a.x.Rows {
				if impl.Meets(a.x.Fields, r.Doc, q) != slices.Contains(got, r.Id) {
					t.Errorf("%s: %v", impl.QueryPut(q), r.Doc)
				}
			}
		}
	}
}

func TestP30WhatCannotBeFound(t *testing.T) {
	x := indexWith(t, sampleFields(), sampleDocs(t)...)
	for _, q := range notFitting() {
		if got := impl.Find(x, q); len(got) != 0 {
			t.Errorf("%s: %v", impl.QueryPut(q), got)
		}
		for _, d := range sampleDocs(t) {
			if impl.Meets(sampleFields(), d, q) {
				t.Errorf("%s: %v", impl.QueryPut(q), d)
			}
		}
	}
	all := impl.Query{Kind: impl.QueryAll}
	for _, d := range wrongDocs() {
		if impl.Meets(sampleFields(), d, all) || impl.Meets(sampleFields(), d, notOf(wordOf("", "red"))) {
			t.Errorf("%v is met", d)
		}
	}
	for _, list := range wrongFields() {
		if impl.Meets(list, impl.Doc{Key: "k"}, all) {
			t.Errorf("met by %v", list)
		}
	}
	if n := len(impl.Find(indexWith(t, sampleFields()), all)); n != 0 {
		t.Error("found where nothing is")
	}
}

func TestP27PartsAreMet(t *testing.T) {
	c := chanceOf(27)
	fields := sampleFields()
	for range 2000 {
		d, a, b, e := c.doc("k"), c.question(3), c.question(3), c.question(3)
		meets := func(q impl.Query) bool { return impl.Meets(fields, d, q) }
		if meets(bothOf(a, b)) != (meets(a) && meets(b)) || meets(someOf(a, b)) != (meets(a) || meets(b)) || meets(notOf(a)) == meets(a) {
			t.Errorf("%v: %s, %s", d, impl.QueryPut(a), impl.QueryPut(b))
		}
		if meets(bothOf(a, b, e, a)) != (meets(a) && meets(b) && meets(e)) || meets(someOf(a, b, b, e)) != (meets(a) || meets(b) || meets(e)) {
			t.Errorf("%v: %s, %s, %s", d, impl.QueryPut(a), impl.QueryPut(b), impl.QueryPut(e))
		}
	}
}

func TestP28P70WhatIsTurned(t *testing.T) {
	c := chanceOf(28)
	fields := sampleFields()
	seen := 0
	for range 2000 {
		d, q := c.doc("k"), c.question(1+c.Intn(impl.DeepMax))
		turned, ok := impl.QueryTurn(q)
		if !ok {
			continue
		}
		if impl.Meets(fields, d, turned) == impl.Meets(fields, d, q) {
			t.Errorf("%v: %s and %s", d, impl.QueryPut(q), impl.QueryPut(turned))
		}
		back, ok := impl.QueryTurn(turned)
		if ok && impl.Meets(fields, d, back) != impl.Meets(fields, d, q) {
			t.Errorf("%v: %s and %s", d, impl.QueryPut(q), impl.QueryPut(back))
		}
		if ok {
			seen++
		}
	}
	if seen < 1000 {
		t.Errorf("only %d were turned twice", seen)
	}
}

func TestP29ADocumentMeetsItsWords(t *testing.T) {
	fields := sampleFields()
	c := chanceOf(29)
	docs := sampleDocs(t)
	for range 200 {
		docs = append(docs, c.doc("k"))
	}
	for _, d := range docs {
		for _, field := range []string{"title", "body"} {
			text, _ := impl.DocText(d, field)
			for _, w := range impl.Words(text) {
				if impl.Stem(w.Text) == "" {
					continue
				}
				begin := impl.Stem(w.Text)
				for _, q := range []impl.Query{wordOf(field, w.Text), wordOf("", w.Text), wordOf(field, strings.ToUpper(w.Text)), beginOf(field, begin), beginOf("", begin[:1])} {
					if !impl.Meets(fields, d, q) {
						t.Errorf("%v does not meet %s", d, impl.QueryPut(q))
					}
				}
			}
		}
	}
}

func TestP65ADocumentMeetsItsNumbersAndTags(t *testing.T) {
	fields := sampleFields()
	c := chanceOf(65)
	docs := sampleDocs(t)
	for range 200 {
		docs = append(docs, c.doc("k"))
	}
	for _, d := range docs {
		n, there := impl.DocNum(fields, d, "price")
		if impl.Meets(fields, d, numOf("price", n, n)) != there || impl.Meets(fields, d, numOf("price", -impl.NumMax, impl.NumMax)) != there {
			t.Errorf("%v: %d", d, n)
		}
		if n < impl.NumMax && impl.Meets(fields, d, numOf("price", n+1, impl.NumMax)) || n > -impl.NumMax && impl.Meets(fields, d, numOf("price", -impl.NumMax, n-1)) {
			t.Errorf("%v beside %d", d, n)
		}
		tags := impl.DocTags(fields, d, "color")
		for _, tag := range []string{"red", "blue", "green", "x9", "re", "zz"} {
			if impl.Meets(fields, d, tagOf("color", tag)) != slices.Contains(tags, tag) {
				t.Errorf("%v: %s", d, tag)
			}
		}
	}
}

func TestP31P72WhatSeveralFind(t *testing.T) {
	for _, a := range sampleAsked(t, 60) {
		all := impl.Find(a.x, impl.Query{Kind: impl.QueryAll})
		c := chanceOf(31)
		for range 200 {
			p, q, r := c.question(3), c.question(3), c.question(3)
			inP, inQ, inR := impl.Find(a.x, p), impl.Find(a.x, q), impl.Find(a.x, r)
			if !slices.Equal(impl.Find(a.x, bothOf(p, q)), impl.SetAnd(inP, inQ)) || !slices.Equal(impl.Find(a.x, someOf(p, q)), impl.SetOr(inP, inQ)) || !slices.Equal(impl.Find(a.x, notOf(p)), impl.SetLess(all, inP)) {
				t.Errorf("%s and %s", impl.QueryPut(p), impl.QueryPut(q))
			}
			if !slices.Equal(impl.Find(a.x, bothOf(p, q, r)), impl.SetAnd(impl.SetAnd(inP, inQ), inR)) || !slices.Equal(impl.Find(a.x, someOf(p, q, r)), impl.SetOr(impl.SetOr(inP, inQ), inR)) {
				t.Errorf("%s, %s and %s", impl.QueryPut(p), impl.QueryPut(q), impl.QueryPut(r))
			}
			not := impl.Find(a.x, notOf(p))
			if !slices.Equal(impl.SetOr(inP, not), all) || len(impl.SetAnd(inP, not)) != 0 {
				t.Errorf("%s, and what it is not", impl.QueryPut(p))
			}
		}
	}
}

func TestP32P33ADocumentMoreAndLess(t *testing.T) {
	for i, a := range sampleAsked(t, 60) {
		d := chanceOf(int64(i)).doc("new")
		more, id, ok := impl.IndexPut(a.x, d)
		for _, q := range a.qs {
			was := impl.Find(a.x, q)
			if ok {
				want := slices.Clone(was)
				if impl.Meets(a.x.Fields, d, q) {
					want = append(want, id)
				}
				if got := impl.Find(more, q); !slices.Equal(got, want) {
					t.Errorf("%s with %v: %v", impl.QueryPut(q), d, got)
				}
			}
			for _, r := range a.x.Rows {
				less, _ := impl.IndexDrop(a.x, r.Doc.Key)
				if got := impl.Find(less, q); !slices.Equal(got, impl.SetLess(was, []int{r.Id})) {
					t.Errorf("%s without %v: %v", impl.QueryPut(q), r.Doc, got)
				}
			}
		}
	}
}

func TestP34WhatBeginsSo(t *testing.T) {
	for _, a := range sampleAsked(t, 0) {
		for _, field := range []string{"title", "body"} {
			for _, text := range []string{"r", "re", "red", "reds", "a", "ap", "apple", "applepie", "v", "verylongword", "9", "x9", "zz", "the", "s", "b"} {
				var want []int
				for _, term := range impl.IndexTerms(a.x, field, text) {
					want = impl.SetOr(want, impl.Find(a.x, wordOf(field, term)))
				}
				got := impl.Find(a.x, beginOf(field, text))
				if !slices.Equal(got, want) {
					t.Errorf("%s %s: %v, not %v", field, text, got, want)
				}
				if shorter := impl.Find(a.x, beginOf(field, text[:1])); len(impl.SetLess(got, shorter)) != 0 {
					t.Errorf("%s %s finds more than what is shorter", field, text)
				}
			}
		}
	}
}

func TestP36P89Keys(t *testing.T) {
	x := mixedIndex(t)
	for _, c := range []struct {
		ids  []int
		want string
	}{
		{nil, ""}, {[]int{}, ""}, {[]int{1, 2, 3, 4}, "a b c d"}, {[]int{4, 2}, "b d"}, {[]int{3, 3, 3}, "c"}, {[]int{0, 5, -1, 77, 1 << 40}, ""}, {[]int{2, 77, 1, 2, -1}, "a b"}, {steps(-500, 1000, 1), "a b c d"},
	} {
		if got := strings.Join(impl.Keys(x, c.ids), " "); got != c.want {
			t.Errorf("%v: %s", c.ids, got)
		}
	}
	for _, x := range sampleIndexes(t) {
		if got := impl.Keys(x, impl.Find(x, impl.Query{Kind: impl.QueryAll})); !slices.Equal(got, keysOf(x)) {
			t.Errorf("%v: %v", keysOf(x), got)
		}
		for _, r := range x.Rows {
			if got := impl.Keys(x, []int{r.Id}); !slices.Equal(got, []string{r.Doc.Key}) {
				t.Errorf("%d: %v", r.Id, got)
			}
		}
	}
}

func TestP37WhoIsAlike(t *testing.T) {
	x := indexWith(t, sampleFields(), sampleDocs(t)...)
	for _, c := range [][2]string{{"a", "[3 7]"}, {"b", "[7]"}, {"c", "[]"}, {"d", "[0]"}, {"e", "[]"}, {"f", "[]"}, {"h", "[0 1]"}, {"zz", "[]"}, {"", "[]"}, {"A", "[]"}} {
		if got := fmt.Sprint(impl.Alike(x, c[0])); got != c[1] {
			t.Errorf("%s: %s", c[0], got)
		}
	}
	for _, x := range sampleIndexes(t) {
		for _, r := range x.Rows {
			alike := impl.Alike(x, r.Doc.Key)
			if !impl.SetOk(alike) || slices.Contains(alike, r.Id) {
				t.Errorf("%s: %v", r.Doc.Key, alike)
			}
			for _, s := range x.Rows {
				if slices.Contains(alike, s.Id) != slices.Contains(impl.Alike(x, s.Doc.Key), r.Id) || slices.Contains(alike, s.Id) != (r.Id != s.Id && shareAWord(x, r.Id, s.Id)) {
					t.Errorf("%s and %s", r.Doc.Key, s.Doc.Key)
				}
			}
		}
	}
}

// shareAWord says whether two documents stand in one entry.
func shareAWord(x impl.Index, a int, b int) bool {
	return slices.ContainsFunc(x.Entries, func(e impl.Entry) bool {
		has := func(id int) bool {
			return slices.ContainsFunc(e.Posts, func(p impl.Post) bool { return p.Doc == id })
		}
		return has(a) && has(b)
	})
}

func TestP71AllAndNone(t *testing.T) {
	for _, x := range sampleIndexes(t) {
		var ids []int
		for _, r := range x.Rows {
			ids = append(ids, r.Id)
		}
		all := impl.Query{Kind: impl.QueryAll}
		if !slices.Equal(impl.Find(x, all), ids) || len(impl.Find(x, notOf(all))) != 0 || !slices.Equal(impl.Find(x, notOf(notOf(all))), ids) {
			t.Errorf("%v: %v", ids, impl.Find(x, all))
		}
	}
}

func TestP74WordsOfAPhrase(t *testing.T) {
	found := 0
	for _, a := range sampleAsked(t, 0) {
		c := chanceOf(74)
		for range 400 {
			field, text := c.oneOf("", "title", "body"), c.words(2, 3)
			ids := impl.Find(a.x, phraseOf(field, text))
			found += len(ids)
			for _, w := range strings.Split(text, " ") {
				if impl.Stem(w) != "" && len(impl.SetLess(ids, impl.Find(a.x, wordOf(field, w)))) != 0 {
					t.Errorf("%s: %v", text, ids)
				}
			}
		}
	}
	if found < 100 {
		t.Errorf("only %d were found", found)
	}
}

func TestP75WhatIsFoundInAField(t *testing.T) {
	for _, a := range sampleAsked(t, 300) {
		for _, q := range a.qs {
			if q.Kind > impl.QueryBegin || q.Kind == impl.QueryAll {
				continue
			}
			q.Field = ""
			var any []int
			for _, field := range []string{"title", "body"} {
				in := q
				in.Field = field
				any = impl.SetOr(any, impl.Find(a.x, in))
			}
			if got := impl.Find(a.x, q); !slices.Equal(got, any) {
				t.Errorf("%s: %v, not %v", impl.QueryPut(q), got, any)
			}
		}
	}
}

func TestP76AWordIsFoundWhereItStands(t *testing.T) {
	c := chanceOf(76)
	for _, x := range sampleIndexes(t) {
		for range 100 {
			field, word := c.oneOf("title", "body"), c.word()
			if impl.Stem(word) == "" || !impl.QueryFits(x.Fields, wordOf(field, word)) {
				continue
			}
			var docs []int
			for _, p := range impl.IndexPosts(x, field, impl.Stem(word)) {
				docs = append(docs, p.Doc)
			}
			if got := impl.Find(x, wordOf(field, word)); !slices.Equal(got, docs) {
				t.Errorf("%s %s: %v, not %v", field, word, got, docs)
			}
		}
	}
}

func TestP90WithoutACellOfAnotherField(t *testing.T) {
	c := chanceOf(90)
	fields := sampleFields()
	for range 1000 {
		d, q := c.doc("k"), c.leaf()
		for i, cell := range d.Cells {
			if q.Field == "" || cell.Name == q.Field {
				continue
			}
			less := impl.Doc{Key: d.Key, Cells: slices.Delete(slices.Clone(d.Cells), i, i+1)}
			if impl.Meets(fields, less, q) != impl.Meets(fields, d, q) {
				t.Errorf("%s: %v without %s", impl.QueryPut(q), d, cell.Name)
			}
		}
	}
}

func TestPlacesGoAcrossNoCells(t *testing.T) {
	fields := sampleFields()
	d := docOf(t, "k; body=red; title=apple")
	e := docOf(t, "j; body=pie of; title=the red")
	x := indexWith(t, fields, d, e)
	for _, s := range []string{`"red apple"`, `"apple red"`, `"pie red"`, `"pie of the"`, `"pie of the red"`, `"of of"`} {
		q, _ := impl.QueryGet(s)
		if impl.Meets(fields, d, q) || impl.Meets(fields, e, q) || len(impl.Find(x, q)) != 0 {
			t.Errorf("%s is found", s)
		}
	}
}
