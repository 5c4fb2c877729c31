package tests

import (
	"fmt"
	"slices"
	"strconv"
	"strings"
	"testing"

	"loop.example/spandrel/impl"
)

// entriesByLook is what entries an index must have, by a look at each document for each word.
func entriesByLook(x impl.Index) []impl.Entry {
	var spots [][2]string
	for _, r := range x.Rows {
		for _, c := range r.Doc.Cells {
			for _, term := range termsByLook(x.Fields, r.Doc, c.Name) {
				if spot := [2]string{c.Name, term}; term != "" && !slices.Contains(spots, spot) {
					spots = append(spots, spot)
				}
			}
		}
	}
	slices.SortFunc(spots, func(a [2]string, b [2]string) int { return slices.Compare(a[:], b[:]) })
	var list []impl.Entry
	for _, s := range spots {
		list = append(list, impl.Entry{Field: s[0], Term: s[1], Posts: postsByLook(x, s[0], s[1])})
	}
	return list
}

// termsByLook is terms of a document in a field, if that is one of texts.
func termsByLook(fields []impl.Field, d impl.Doc, name string) []string {
	for _, f := range fields {
		if text, there := impl.DocText(d, name); f.Name == name && f.Kind == impl.FieldText && there {
			return impl.Terms(text)
		}
	}
	return nil
}

func postsByLook(x impl.Index, field string, term string) []impl.Post {
	var list []impl.Post
	for _, r := range x.Rows {
		p := impl.Post{Doc: r.Id}
		for at, s := range termsByLook(x.Fields, r.Doc, field) {
			if s == term {
				p.At = append(p.At, at)
			}
		}
		if term != "" && len(p.At) > 0 {
			list = append(list, p)
		}
	}
	return list
}

// sampleIndexes is empty ones, one with all sample documents, one that is full, some from which documents went, and some by chance.
func sampleIndexes(t testing.TB) []impl.Index {
	docs := sampleDocs(t)
	full := indexWith(t, sampleFields(), docs...)
	gone, _ := impl.IndexDrop(full, "c")
	anew, _, _ := impl.IndexPut(gone, docOf(t, "a; title=pies"))
	list := []impl.Index{indexWith(t, sampleFields()), indexWith(t, sampleFields(), docs[:3]...), full, gone, anew, indexWith(t, []impl.Field{{Name: "n", Kind: impl.FieldNum}}, docOf(t, "k; n=7"))}
	for seed := range int64(12) {
		list = append(list, indexWith(t, sampleFields(), chanceOf(seed).docs()...))
	}
	return list
}

func keysOf(x impl.Index) []string {
	var keys []string
	for _, r := range x.Rows {
		keys = append(keys, r.Doc.Key)
	}
	return keys
}

func TestP18AnIndexBeginsWithNothing(t *testing.T) {
	for _, list := range listsOfFields() {
		x, ok := impl.IndexNew(list)
		if !ok || !slices.Equal(x.Fields, list) || len(x.Rows) != 0 || len(x.Entries) != 0 || x.Next != 0 || !impl.IndexOk(x) {
			t.Errorf("%v: %v", list, x)
		}
		for _, f := range list {
			if len(impl.IndexTerms(x, f.Name, "")) != 0 {
				t.Errorf("%v has words", x)
			}
		}
	}
	for _, list := range wrongFields() {
		x, ok := impl.IndexNew(list)
		if ok || !indexEqual(x, impl.Index{}) || impl.IndexOk(impl.Index{Fields: list}) {
			t.Errorf("%v: %v", list, x)
		}
	}
}

func TestP19ADocumentIsPutIn(t *testing.T) {
	if impl.DocMax != 8 {
		t.Error(impl.DocMax)
	}
	x := indexWith(t, sampleFields())
	for i, d := range sampleDocs(t) {
		y, id, ok := impl.IndexPut(x, d)
		got, there := impl.IndexDoc(y, d.Key)
		if !ok || id != i || y.Next != i+1 || !there || !docEqual(got, d) || !impl.IndexOk(y) {
			t.Errorf("%v: %d %v %v", d, id, ok, y)
		}
		if len(y.Rows) != i+1 || !slices.EqualFunc(y.Rows[:i], x.Rows, rowEqual) || !rowEqual(y.Rows[i], impl.Row{Id: i, Doc: d}) {
			t.Errorf("%v: %v", d, y.Rows)
		}
		x = y
	}
	if _, there := impl.IndexDoc(x, "zz"); there {
		t.Error("what is not there")
	}
}

func TestP19ADocumentComesAnew(t *testing.T) {
	for _, x := range sampleIndexes(t) {
		for i, r := range x.Rows {
			d := impl.Doc{Key: r.Doc.Key}
			y, id, ok := impl.IndexPut(x, d)
			others := slices.Delete(slices.Clone(x.Rows), i, i+1)
			if !ok || id != x.Next || y.Next != x.Next+1 || !slices.EqualFunc(y.Rows, append(others, impl.Row{Id: id, Doc: d}), rowEqual) {
				t.Errorf("%v anew: %v", d, y)
			}
			if !impl.IndexOk(y) || !slices.EqualFunc(y.Entries, entriesByLook(y), entryEqual) {
				t.Errorf("%v anew: words %v", d, y.Entries)
			}
		}
	}
}

func TestP67ADocumentIsPutInTwice(t *testing.T) {
	for _, x := range sampleIndexes(t) {
		for _, r := range x.Rows {
			y, id, ok := impl.IndexPut(x, r.Doc)
			if !ok || id != x.Next || y.Next != x.Next+1 || len(y.Rows) != len(x.Rows) || len(y.Entries) != len(x.Entries) {
				t.Errorf("%v twice: %v", r.Doc, y)
			}
			if got := y.Rows[len(y.Rows)-1]; got.Id != id || !docEqual(got.Doc, r.Doc) {
				t.Errorf("%v twice: %v", r.Doc, got)
			}
		}
	}
}

// wrongDocs is documents that sampleFields do not take.
func wrongDocs() []impl.Doc {
	return append(wrongForms(), oneCell("price", "x"), oneCell("price", "-0"), oneCell("color", ""), oneCell("other", "x"))
}

func TestP19WhatIsNotPutIn(t *testing.T) {
	for _, x := range sampleIndexes(t)[:5] {
		for _, d := range wrongDocs() {
			y, id, ok := impl.IndexPut(x, d)
			if ok || id != 0 || !indexEqual(y, x) {
				t.Errorf("%v: %d %v", d, id, y)
			}
		}
	}
	for _, key := range []string{"c", "zz"} {
		x := indexWith(t, sampleFields(), sampleDocs(t)...)
		y, id, ok := impl.IndexPut(x, impl.Doc{Key: key})
		if room := key == "c"; ok != room || room && (id != impl.DocMax || len(y.Rows) != impl.DocMax) || !room && (id != 0 || !indexEqual(y, x)) {
			t.Errorf("%s into a full one: %d %v", key, id, y)
		}
	}
}

func TestP19TheLastNumber(t *testing.T) {
	x := indexWith(t, sampleFields(), sampleDocs(t)[:2]...)
	x.Next = impl.NumMax - 1
	y, id, ok := impl.IndexPut(x, impl.Doc{Key: "z"})
	if !ok || id != impl.NumMax-1 || y.Next != impl.NumMax || !impl.IndexOk(y) {
		t.Errorf("the last: %d %v", id, y)
	}
	for _, key := range []string{"z", "a", "new"} {
		z, id, ok := impl.IndexPut(y, impl.Doc{Key: key})
		if ok || id != 0 || !indexEqual(z, y) {
			t.Errorf("%s behind the last: %d %v", key, id, z)
		}
	}
	if z, ok := impl.IndexDrop(y, "z"); !ok || z.Next != impl.NumMax || !impl.IndexOk(z) {
		t.Error("not taken out")
	}
	if fmt.Sprint(impl.Find(y, impl.Query{Kind: impl.QueryAll})) != "[0 1 999999998]" {
		t.Error(impl.Find(y, impl.Query{Kind: impl.QueryAll}))
	}
}

func TestP20ADocumentIsTakenOut(t *testing.T) {
	for _, x := range sampleIndexes(t) {
		for i, r := range x.Rows {
			y, ok := impl.IndexDrop(x, r.Doc.Key)
			if !ok || y.Next != x.Next || !slices.EqualFunc(y.Rows, slices.Delete(slices.Clone(x.Rows), i, i+1), rowEqual) || !slices.Equal(y.Fields, x.Fields) {
				t.Errorf("without %s: %v", r.Doc.Key, y)
			}
			if !impl.IndexOk(y) || !slices.EqualFunc(y.Entries, entriesByLook(y), entryEqual) {
				t.Errorf("without %s: words %v", r.Doc.Key, y.Entries)
			}
			if d, there := impl.IndexDoc(y, r.Doc.Key); there || !docEqual(d, impl.Doc{}) {
				t.Errorf("%s is still there", r.Doc.Key)
			}
			if _, again := impl.IndexDrop(y, r.Doc.Key); again {
				t.Errorf("%s is taken out twice", r.Doc.Key)
			}
		}
		for _, key := range []string{"", "zz", "A", "k ", "\x00", strings.Repeat("k", 100)} {
			y, ok := impl.IndexDrop(x, key)
			d, there := impl.IndexDoc(x, key)
			if ok || !indexEqual(y, x) || there || !docEqual(d, impl.Doc{}) {
				t.Errorf("%q is taken out: %v", key, y)
			}
		}
	}
}

func TestP21PutInAndTakenOut(t *testing.T) {
	c := chanceOf(5)
	for _, x := range sampleIndexes(t) {
		for _, key := range append(keysOf(x), "zz") {
			y, _, ok := impl.IndexPut(x, c.doc(key))
			if !ok && len(x.Rows) < impl.DocMax && key == "zz" && slices.Equal(x.Fields, sampleFields()) {
				t.Errorf("%s is not put in", key)
			}
			if !ok {
				continue
			}
			back, gone := impl.IndexDrop(y, key)
			without, _ := impl.IndexDrop(x, key)
			if !gone || !contentEqual(back, without) || back.Next != x.Next+1 {
				t.Errorf("%s: %v", key, back)
			}
		}
	}
}

func TestP22WordsThatBeginSo(t *testing.T) {
	x := indexWith(t, sampleFields(), sampleDocs(t)...)
	for _, c := range []struct{ field, begin, want string }{
		{"title", "", "apple,pie,red"}, {"body", "", "9x,apple,b,pie,red,tree,verylongword,x9"}, {"body", "p", "pie"}, {"body", "pie", "pie"}, {"body", "pies", ""}, {"title", "R", ""},
		{"price", "", ""}, {"color", "", ""}, {"color", "red", ""}, {"", "", ""}, {"zz", "", ""}, {"Title", "", ""}, {"body", "verylongword", "verylongword"}, {"body", "verylongwordi", ""}, {"body", "the", ""}, {"body", "\x00", ""},
	} {
		if got := strings.Join(impl.IndexTerms(x, c.field, c.begin), ","); got != c.want {
			t.Errorf("%q %q: %q", c.field, c.begin, got)
		}
	}
	for _, x := range sampleIndexes(t) {
		for _, field := range []string{"title", "body", "price", "color", "n", "", "zz"} {
			all := impl.IndexTerms(x, field, "")
			if !isAscendingTexts(all) {
				t.Errorf("%s: %q", field, all)
			}
			for _, begin := range append(all, "a", "r", "s", "x", "9", "the", "A", "zz") {
				for to := range len(begin) + 1 {
					got := impl.IndexTerms(x, field, begin[:to])
					want := slices.DeleteFunc(slices.Clone(all), func(s string) bool { return !strings.HasPrefix(s, begin[:to]) })
					if !slices.Equal(got, want) {
						t.Errorf("%s %q: %q", field, begin[:to], got)
					}
				}
			}
			for _, term := range all {
				if len(impl.IndexPosts(x, field, term)) == 0 || !impl.TermOk(term) {
					t.Errorf("%s %q stands nowhere", field, term)
				}
			}
		}
	}
}

func TestP23WordsStandWhereTheyAreTold(t *testing.T) {
	x := indexWith(t, sampleFields(), sampleDocs(t)...)
	for _, c := range []struct{ field, term, want string }{
		{"body", "red", "[{2 [1 4]}]"}, {"body", "tree", "[{2 [2]}]"}, {"title", "red", "[{0 [0]} {3 [1]}]"}, {"title", "pie", "[{1 [0]} {7 [2]}]"}, {"body", "verylongword", "[{7 [0 1]}]"},
		{"body", "b", "[{6 [0 1 2 3 4 5 6 7 8 9 10 11 12 13 14 15 16 17 18 19 20 21 22 23 24 25 26 27 28 29]}]"},
		{"body", "", "[]"}, {"title", "", "[]"}, {"body", "the", "[]"}, {"body", "Red", "[]"}, {"title", "apples", "[]"}, {"color", "red", "[]"}, {"", "red", "[]"}, {"zz", "red", "[]"}, {"body", "re", "[]"},
	} {
		if got := fmt.Sprint(impl.IndexPosts(x, c.field, c.term)); got != c.want {
			t.Errorf("%q %q: %s", c.field, c.term, got)
		}
	}
	for _, x := range sampleIndexes(t) {
		if !slices.EqualFunc(x.Entries, entriesByLook(x), entryEqual) || !impl.IndexOk(x) {
			t.Errorf("%v", x)
		}
		for _, e := range x.Entries {
			if !postsEqual(impl.IndexPosts(x, e.Field, e.Term), postsByLook(x, e.Field, e.Term)) {
				t.Errorf("%s %s", e.Field, e.Term)
			}
		}
	}
}

func TestEntriesStandByFieldThenWord(t *testing.T) {
	fields := []impl.Field{{Name: "z", Kind: impl.FieldText, Weight: 1}, {Name: "ab", Kind: impl.FieldText, Weight: 1}, {Name: "a", Kind: impl.FieldText, Weight: 1}}
	x := indexWith(t, fields, docOf(t, "k; ab=y x; z=b a0 ba"), docOf(t, "j; a=z; z=B"))
	var got []string
	for _, e := range x.Entries {
		got = append(got, e.Field+":"+e.Term+fmt.Sprint(e.Posts))
	}
	if s := strings.Join(got, " "); s != "a:z[{1 [0]}] ab:x[{0 [1]}] ab:y[{0 [0]}] z:a0[{0 [1]}] z:b[{0 [0]} {1 [0]}] z:ba[{0 [2]}]" {
		t.Error(s)
	}
}

func TestP68TheOrderInWhichDocumentsCame(t *testing.T) {
	for seed := range int64(20) {
		c := chanceOf(seed)
		docs := c.docs()
		x := indexWith(t, sampleFields(), docs...)
		c.Shuffle(len(docs), func(i int, j int) { docs[i], docs[j] = docs[j], docs[i] })
		y := indexWith(t, sampleFields(), docs...)
		for range 40 {
			q := c.question(impl.DeepMax)
			a, b := impl.Keys(x, impl.Find(x, q)), impl.Keys(y, impl.Find(y, q))
			slices.Sort(a)
			slices.Sort(b)
			if !slices.Equal(a, b) {
				t.Errorf("%s: %q %q", impl.QueryPut(q), a, b)
			}
		}
	}
}

func TestP69WithoutDocumentsNoWords(t *testing.T) {
	for _, x := range sampleIndexes(t) {
		next := x.Next
		for _, key := range keysOf(x) {
			x, _ = impl.IndexDrop(x, key)
		}
		if len(x.Rows) != 0 || len(x.Entries) != 0 || x.Next != next || !impl.IndexOk(x) {
			t.Errorf("%v", x)
		}
	}
}

// change is one way in which an index is not ok.
type change struct {
	what string
	make func(x *impl.Index)
}

func copyIndex(x impl.Index) impl.Index {
	y := impl.Index{Fields: slices.Clone(x.Fields), Next: x.Next}
	for _, r := range x.Rows {
		y.Rows = append(y.Rows, impl.Row{Id: r.Id, Doc: impl.Doc{Key: r.Doc.Key, Cells: slices.Clone(r.Doc.Cells)}})
	}
	for _, e := range x.Entries {
		var posts []impl.Post
		for _, p := range e.Posts {
			posts = append(posts, impl.Post{Doc: p.Doc, At: slices.Clone(p.At)})
		}
		y.Entries = append(y.Entries, impl.Entry{Field: e.Field, Term: e.Term, Posts: posts})
	}
	return y
}

// mixedIndex has Ids 1 to 4; in title a word of two documents, in body one of two places.
func mixedIndex(t testing.TB) impl.Index {
	x := indexWith(t, sampleFields(), docOf(t, "zz"), docOf(t, "a; price=5; title=red pie"), docOf(t, "b; title=the red"), docOf(t, "c; body=red of red; color=blue"), docOf(t, "d"))
	x, _ = impl.IndexDrop(x, "zz")
	return x
}

func entryAt(x *impl.Index, field string, term string) *impl.Entry {
	for i := range x.Entries {
		if x.Entries[i].Field == field && x.Entries[i].Term == term {
			return &x.Entries[i]
		}
	}
	return nil
}

func wrongRows() []change {
	return []change{
		{"no fields", func(x *impl.Index) { x.Fields = nil }},
		{"a field twice", func(x *impl.Index) { x.Fields[1] = x.Fields[0] }},
		{"a field of no kind", func(x *impl.Index) { x.Fields[3].Kind = 0 }},
		{"a field that is another one", func(x *impl.Index) { x.Fields[2].Name = "other" }},
		{"a field of another kind", func(x *impl.Index) { x.Fields[0] = impl.Field{Name: "title", Kind: impl.FieldTag} }},
		{"Next too low", func(x *impl.Index) { x.Next = 4 }},
		{"Next 0", func(x *impl.Index) { x.Next = 0 }},
		{"Next below 0", func(x *impl.Index) { *x = impl.Index{Fields: x.Fields, Next: -1} }},
		{"Next far below 0", func(x *impl.Index) { *x = impl.Index{Fields: x.Fields, Next: -1 << 63} }},
		{"Next too high", func(x *impl.Index) { x.Next = impl.NumMax + 1 }},
		{"Next far too high", func(x *impl.Index) { x.Next = 1<<63 - 1 }},
		{"an Id at Next", func(x *impl.Index) { x.Rows[3].Id = x.Next }},
		{"an Id above Next", func(x *impl.Index) { x.Rows[3].Id = x.Next + 1 }},
		{"an Id below 0", func(x *impl.Index) {
			x.Rows = append([]impl.Row{{Id: -1, Doc: impl.Doc{Key: "e"}}}, x.Rows...)
		}},
		{"an Id twice", func(x *impl.Index) { x.Rows[3].Id = x.Rows[2].Id }},
		{"Ids out of order", func(x *impl.Index) { x.Rows[2], x.Rows[3] = x.Rows[3], x.Rows[2] }},
		{"Ids out of order, in their places", func(x *impl.Index) {
			x.Rows[3].Id, x.Rows[2].Id = 3, 4
			x.Rows[2].Doc, x.Rows[3].Doc = x.Rows[3].Doc, x.Rows[2].Doc
		}},
		{"a key twice", func(x *impl.Index) { x.Rows[3].Doc.Key = "a" }},
		{"no key", func(x *impl.Index) { x.Rows[3].Doc.Key = "" }},
		{"a document that is not ok", func(x *impl.Index) { x.Rows[3].Doc.Cells = []impl.Cell{{Name: "price", Text: "x"}} }},
		{"a cell of no field", func(x *impl.Index) { x.Rows[3].Doc.Cells = []impl.Cell{{Name: "other", Text: "x"}} }},
		{"a document whose words are not there", func(x *impl.Index) { x.Rows[3].Doc.Cells = []impl.Cell{{Name: "title", Text: "red"}} }},
		{"a document too few", func(x *impl.Index) { x.Rows = x.Rows[1:] }},
		{"a document too many", func(x *impl.Index) {
			x.Next = 20
			for i := range impl.DocMax - 3 {
				x.Rows = append(x.Rows, impl.Row{Id: 10 + i, Doc: impl.Doc{Key: "n" + strconv.Itoa(i)}})
			}
		}},
	}
}

func wrongEntries() []change {
	return []change{
		{"no entries", func(x *impl.Index) { x.Entries = nil }},
		{"an entry too few, the first", func(x *impl.Index) { x.Entries = x.Entries[1:] }},
		{"an entry too few, the last", func(x *impl.Index) { x.Entries = x.Entries[:len(x.Entries)-1] }},
		{"an entry too many", func(x *impl.Index) {
			x.Entries = append(x.Entries, impl.Entry{Field: "title", Term: "zz", Posts: []impl.Post{{Doc: 1, At: []int{2}}}})
		}},
		{"an entry with nothing", func(x *impl.Index) { x.Entries = append(x.Entries, impl.Entry{Field: "title", Term: "zz"}) }},
		{"an entry that is nothing", func(x *impl.Index) { x.Entries = append([]impl.Entry{{}}, x.Entries...) }},
		{"an entry whose posts are gone", func(x *impl.Index) { entryAt(x, "title", "pie").Posts = nil }},
		{"an entry of what nothing is looked for by", func(x *impl.Index) {
			x.Entries = append([]impl.Entry{{Field: "body", Posts: []impl.Post{{Doc: 3, At: []int{1}}}}}, x.Entries...)
		}},
		{"an entry of a tag", func(x *impl.Index) {
			x.Entries = append(x.Entries[:1:1], append([]impl.Entry{{Field: "color", Term: "blue", Posts: []impl.Post{{Doc: 3, At: []int{0}}}}}, x.Entries[1:]...)...)
		}},
		{"an entry twice", func(x *impl.Index) { x.Entries = append(x.Entries, x.Entries[len(x.Entries)-1]) }},
		{"an entry in the place of another one", func(x *impl.Index) { x.Entries[0] = x.Entries[1] }},
		{"entries out of order", func(x *impl.Index) { x.Entries[1], x.Entries[2] = x.Entries[2], x.Entries[1] }},
		{"entries out of order by field", func(x *impl.Index) { x.Entries[0], x.Entries[1] = x.Entries[1], x.Entries[0] }},
		{"another field", func(x *impl.Index) { entryAt(x, "title", "pie").Field = "body" }},
		{"another word", func(x *impl.Index) { entryAt(x, "title", "pie").Term = "pies" }},
		{"a great letter", func(x *impl.Index) { entryAt(x, "title", "pie").Term = "Pie" }},
	}
}

func wrongPosts() []change {
	return []change{
		{"a post too few", func(x *impl.Index) { e := entryAt(x, "title", "red"); e.Posts = e.Posts[:1] }},
		{"a post too many", func(x *impl.Index) {
			e := entryAt(x, "title", "red")
			e.Posts = append(e.Posts, impl.Post{Doc: 3, At: []int{0}})
		}},
		{"a post of what is not there", func(x *impl.Index) {
			e := entryAt(x, "title", "red")
			e.Posts = append(e.Posts, impl.Post{Doc: 77, At: []int{0}})
		}},
		{"a post twice", func(x *impl.Index) { e := entryAt(x, "title", "red"); e.Posts = append(e.Posts, e.Posts[1]) }},
		{"posts out of order", func(x *impl.Index) { p := entryAt(x, "title", "red").Posts; p[0], p[1] = p[1], p[0] }},
		{"a post of another document", func(x *impl.Index) { entryAt(x, "title", "pie").Posts[0].Doc = 2 }},
		{"a post with nothing", func(x *impl.Index) {
			e := entryAt(x, "title", "red")
			e.Posts = append(e.Posts, impl.Post{Doc: 4})
		}},
		{"a post whose places are gone", func(x *impl.Index) { entryAt(x, "title", "pie").Posts[0].At = nil }},
		{"a place too few", func(x *impl.Index) { entryAt(x, "body", "red").Posts[0].At = []int{0} }},
		{"a place too many", func(x *impl.Index) { entryAt(x, "body", "red").Posts[0].At = []int{0, 1, 2} }},
		{"a place behind the end", func(x *impl.Index) { entryAt(x, "body", "red").Posts[0].At = []int{0, 2, 3} }},
		{"a place twice", func(x *impl.Index) { entryAt(x, "body", "red").Posts[0].At = []int{0, 2, 2} }},
		{"places out of order", func(x *impl.Index) { entryAt(x, "body", "red").Posts[0].At = []int{2, 0} }},
		{"places without what nothing is looked for by", func(x *impl.Index) { entryAt(x, "body", "red").Posts[0].At = []int{0, 1} }},
		{"places from 1 on", func(x *impl.Index) { entryAt(x, "body", "red").Posts[0].At = []int{1, 3} }},
	}
}

// wrongIndexes is an index changed in each single way.
func wrongIndexes(t testing.TB) map[string]impl.Index {
	list := map[string]impl.Index{"nothing": {}}
	for _, c := range slices.Concat(wrongRows(), wrongEntries(), wrongPosts()) {
		x := copyIndex(mixedIndex(t))
		c.make(&x)
		list[c.what] = x
	}
	return list
}

func TestIndexesThatAreNotOk(t *testing.T) {
	if x := mixedIndex(t); !impl.IndexOk(x) || !impl.IndexOk(copyIndex(x)) || len(x.Entries) != 3 {
		t.Fatal(x)
	}
	for what, x := range wrongIndexes(t) {
		if impl.IndexOk(x) {
			t.Errorf("%s: ok", what)
		}
		y, id, ok := impl.IndexPut(x, impl.Doc{Key: "a"})
		if ok || id != 0 || !indexEqual(y, impl.Index{}) {
			t.Errorf("%s: IndexPut %v", what, y)
		}
		for _, key := range []string{"a", "zz"} {
			y, ok = impl.IndexDrop(x, key)
			d, there := impl.IndexDoc(x, key)
			if ok || !indexEqual(y, impl.Index{}) || there || !docEqual(d, impl.Doc{}) {
				t.Errorf("%s: IndexDrop %v, IndexDoc %v", what, y, d)
			}
		}
		if len(impl.IndexTerms(x, "title", "")) != 0 || len(impl.IndexPosts(x, "title", "red")) != 0 {
			t.Errorf("%s: words", what)
		}
		if len(impl.Find(x, impl.Query{Kind: impl.QueryAll})) != 0 || len(impl.Keys(x, []int{1, 2, 3})) != 0 || len(impl.Alike(x, "a")) != 0 {
			t.Errorf("%s: found", what)
		}
	}
}

func TestAnIndexThatIsJustOk(t *testing.T) {
	x := copyIndex(mixedIndex(t))
	x.Next = impl.NumMax
	x.Rows[3].Id = impl.NumMax - 1
	if !impl.IndexOk(x) {
		t.Error("the greatest numbers")
	}
	for i := range impl.DocMax - 4 {
		x.Rows = slices.Insert(x.Rows, 3, impl.Row{Id: 20 - i, Doc: impl.Doc{Key: "n" + strconv.Itoa(i)}})
	}
	if len(x.Rows) != impl.DocMax || !impl.IndexOk(x) {
		t.Error("as many as there may be")
	}
	x.Rows[0].Doc.Cells = []impl.Cell{}
	x.Entries = []impl.Entry{}
	if impl.IndexOk(x) || !impl.IndexOk(impl.Index{Fields: x.Fields, Rows: []impl.Row{}, Entries: []impl.Entry{}, Next: 7}) {
		t.Error("empty lists")
	}
}
