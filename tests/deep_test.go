package tests

import (
	"reflect"
	"slices"
	"testing"
	"unsafe"

	"loop.example/spandrel/impl"
)

// roomy is a copy in which each list has room behind its end, with something in it.
func roomy[T any](v T) T {
	return roomyValue(reflect.ValueOf(v)).Interface().(T)
}

func roomyValue(v reflect.Value) reflect.Value {
	made := reflect.New(v.Type()).Elem()
	switch v.Kind() {
	case reflect.Slice:
		list := reflect.MakeSlice(v.Type(), v.Len()+2, v.Len()+2)
		for i := range list.Len() {
			if i < v.Len() {
				list.Index(i).Set(roomyValue(v.Index(i)))
			} else {
				fill(list.Index(i))
			}
		}
		made.Set(list.Slice(0, v.Len()))
	case reflect.Struct:
		for i := range v.NumField() {
			made.Field(i).Set(roomyValue(v.Field(i)))
		}
	case reflect.String:
		made.SetString(string([]byte(v.String())))
	default:
		made.Set(v)
	}
	return made
}

// fill writes something that no right answer has.
func fill(v reflect.Value) {
	switch v.Kind() {
	case reflect.Struct:
		for i := range v.NumField() {
			fill(v.Field(i))
		}
	case reflect.String:
		v.SetString("!")
	case reflect.Int:
		v.SetInt(-77)
	case reflect.Slice:
		list := reflect.MakeSlice(v.Type(), 1, 1)
		if list.Index(0).Kind() != reflect.Struct {
			fill(list.Index(0))
		}
		v.Set(list)
	}
}

// whole is all that can be seen of a value, what is behind the ends of lists included.
func whole(v reflect.Value) any {
	switch v.Kind() {
	case reflect.Slice:
		list := []any{v.Len()}
		for i := range v.Cap() {
			list = append(list, whole(v.Slice(0, v.Cap()).Index(i)))
		}
		return list
	case reflect.Struct:
		var list []any
		for i := range v.NumField() {
			list = append(list, whole(v.Field(i)))
		}
		return list
	case reflect.String:
		return string([]byte(v.String()))
	}
	return v.Interface()
}

// piece is a piece of memory.
type piece struct {
	from uintptr
	to   uintptr
	text bool
}

// pieces is memory of all lists of a value, spare room included, and of all texts that may be told apart from those of others.
func pieces(v reflect.Value) []piece {
	var list []piece
	switch v.Kind() {
	case reflect.Slice:
		if v.Cap() > 0 {
			from := v.Pointer()
			list = append(list, piece{from: from, to: from + uintptr(v.Cap())*v.Type().Elem().Size()})
		}
		for i := range v.Len() {
			list = append(list, pieces(v.Index(i))...)
		}
	case reflect.Struct:
		for i := range v.NumField() {
			list = append(list, pieces(v.Field(i))...)
		}
	case reflect.String:
		// Texts of one byte are the same memory for all in Go, wherever they come from.
		if s := v.String(); len(s) > 1 {
			from := uintptr(unsafe.Pointer(unsafe.StringData(s)))
			list = append(list, piece{from: from, to: from + uintptr(len(s)), text: true})
		}
	}
	return list
}

func meet(a piece, b piece) bool {
	return a.from < b.to && b.from < a.to
}

// spoilWhole writes into all lists of a value, the inner ones first, spare room included.
func spoilWhole(v reflect.Value) {
	switch v.Kind() {
	case reflect.Slice:
		all := v.Slice(0, v.Cap())
		for i := range all.Len() {
			spoilWhole(all.Index(i))
			fill(all.Index(i))
		}
	case reflect.Struct:
		for i := range v.NumField() {
			spoilWhole(v.Field(i))
		}
	}
}

// ownMemory asks a function two times with arguments that have room behind all lists: nothing of them is written into, the answer shares nothing with them, no two lists of it share any, and who writes into an answer changes no other one.
func ownMemory[A any](t *testing.T, what string, ask func() A, given ...any) {
	t.Helper()
	var before []any
	var theirs []piece
	for _, g := range given {
		before = append(before, whole(reflect.ValueOf(g)))
		theirs = append(theirs, pieces(reflect.ValueOf(g))...)
	}
	kept := func(when string) {
		t.Helper()
		for i, g := range given {
			if !reflect.DeepEqual(whole(reflect.ValueOf(g)), before[i]) {
				t.Errorf("%s: argument %d is changed %s", what, i, when)
			}
		}
	}
	answer := ask()
	kept("by the call")
	ours := pieces(reflect.ValueOf(answer))
	for i, p := range ours {
		if slices.ContainsFunc(theirs, func(q piece) bool { return meet(p, q) }) {
			t.Errorf("%s: the answer shares memory with an argument", what)
		}
		if !p.text && slices.ContainsFunc(ours[:i], func(q piece) bool { return meet(p, q) }) {
			t.Errorf("%s: two lists of the answer share memory", what)
		}
	}
	was := roomy(answer)
	second := ask()
	spoilWhole(reflect.ValueOf(answer))
	kept("through the answer")
	third := ask()
	if !sameValue(second, was) || !sameValue(third, was) {
		t.Errorf("%s: an answer hangs on another one", what)
	}
}

// sameValue says whether two values are the same, lists with nothing being nil or not.
func sameValue(a any, b any) bool {
	return reflect.DeepEqual(whole(reflect.ValueOf(tight(a))), whole(reflect.ValueOf(tight(b))))
}

// tight is a copy without room behind lists.
func tight(v any) any {
	return tightValue(reflect.ValueOf(v)).Interface()
}

func tightValue(v reflect.Value) reflect.Value {
	made := reflect.New(v.Type()).Elem()
	switch v.Kind() {
	case reflect.Slice:
		list := reflect.MakeSlice(v.Type(), v.Len(), v.Len())
		for i := range v.Len() {
			list.Index(i).Set(tightValue(v.Index(i)))
		}
		made.Set(list)
	case reflect.Struct:
		for i := range v.NumField() {
			made.Field(i).Set(tightValue(v.Field(i)))
		}
	default:
		made.Set(v)
	}
	return made
}

// Answers of more than one value, as one.
type (
	putAnswer struct {
		Index impl.Index
		Id    int
		Ok    bool
	}
	indexAnswer struct {
		Index impl.Index
		Ok    bool
	}
	docAnswer struct {
		Doc impl.Doc
		Ok  bool
	}
	queryAnswer struct {
		Query impl.Query
		Ok    bool
	}
)

// sharing is an index that is ok and whose lists share memory, as far as they can.
func sharing(t testing.TB) impl.Index {
	x := indexWith(t, sampleFields(), docOf(t, "aa; body=red pie; price=5; title=red pie"), docOf(t, "bb; body=red pie; price=5; title=red pie"))
	cells := slices.Clone(x.Rows[0].Doc.Cells)
	places := []int{0, 1}
	posts := [][]impl.Post{{{Doc: 0, At: places[:1]}, {Doc: 1, At: places[:1]}}, {{Doc: 0, At: places[1:]}, {Doc: 1, At: places[1:]}}}
	for i := range x.Rows {
		x.Rows[i].Doc.Cells = cells
	}
	for i := range x.Entries {
		x.Entries[i].Posts = posts[1]
		if x.Entries[i].Term == "red" {
			x.Entries[i].Posts = posts[0]
		}
	}
	if !impl.IndexOk(x) {
		t.Fatal(x)
	}
	return x
}

func TestIndexesAreNewMemory(t *testing.T) {
	fields := roomy(sampleFields())
	ownMemory(t, "IndexNew", func() indexAnswer { x, ok := impl.IndexNew(fields); return indexAnswer{x, ok} }, fields)
	notOk := copyIndex(mixedIndex(t))
	notOk.Next = 0
	list := []impl.Index{sharing(t), roomy(sharing(t)), roomy(mixedIndex(t)), roomy(notOk), roomy(indexWith(t, sampleFields(), sampleDocs(t)...)), roomy(indexWith(t, sampleFields()))}
	for _, x := range list {
		for _, d := range append(sampleDocs(t)[:3], docOf(t, "aa; title=red tree"), docOf(t, "zz; body=red red"), oneCell("price", "x")) {
			d = roomy(d)
			ownMemory(t, "IndexPut", func() putAnswer { y, id, ok := impl.IndexPut(x, d); return putAnswer{y, id, ok} }, x, d)
			ownMemory(t, "IndexDrop", func() indexAnswer { y, ok := impl.IndexDrop(x, d.Key); return indexAnswer{y, ok} }, x, d)
			ownMemory(t, "IndexDoc", func() docAnswer { got, ok := impl.IndexDoc(x, d.Key); return docAnswer{got, ok} }, x, d)
			ownMemory(t, "Alike", func() []int { return impl.Alike(x, d.Key) }, x, d)
		}
		for _, field := range []string{"title", "body", "price"} {
			ownMemory(t, "IndexTerms", func() []string { return impl.IndexTerms(x, field, "") }, x)
			ownMemory(t, "IndexPosts", func() []impl.Post { return impl.IndexPosts(x, field, "red") }, x)
		}
		ids := roomy([]int{3, 1, 0, 1, 77})
		ownMemory(t, "Keys", func() []string { return impl.Keys(x, ids) }, x, ids)
		ownMemory(t, "IndexOk", func() bool { return impl.IndexOk(x) }, x)
	}
}

// sharingQueries is questions with room behind their parts, and some whose parts are the same memory.
func sharingQueries() []impl.Query {
	parts := roomy([]impl.Query{wordOf("title", "red"), notOf(phraseOf("", "red pie"))})
	twice := impl.Query{Kind: impl.QueryAnd, Parts: parts}
	list := []impl.Query{twice, bothOf(twice, twice), someOf(twice, notOf(twice)), {Kind: impl.QueryOr, Parts: parts[:2:2]}, notOf(impl.Query{Kind: impl.QueryOr, Parts: parts}), roundQuery(impl.QueryNot, 1)}
	for _, w := range writtenQueries() {
		list = append(list, roomy(w.q))
	}
	return list
}

func TestQuestionsAreNewMemory(t *testing.T) {
	x, fields, d := roomy(mixedIndex(t)), roomy(sampleFields()), roomy(sampleDoc())
	for _, q := range sharingQueries() {
		given := []any{x, fields, d, q}
		if !impl.QueryOk(q) {
			// What is within itself has no end to be looked at.
			given = given[:3]
		}
		ownMemory(t, "QueryOk", func() bool { return impl.QueryOk(q) }, given...)
		ownMemory(t, "QueryFits", func() bool { return impl.QueryFits(fields, q) }, given...)
		ownMemory(t, "QueryPut", func() string { return impl.QueryPut(q) }, given...)
		ownMemory(t, "QueryTerms", func() []string { return impl.QueryTerms(q) }, given...)
		ownMemory(t, "QueryTurn", func() queryAnswer { got, ok := impl.QueryTurn(q); return queryAnswer{got, ok} }, given...)
		ownMemory(t, "Meets", func() bool { return impl.Meets(fields, d, q) }, given...)
		ownMemory(t, "Find", func() []int { return impl.Find(x, q) }, given...)
		text := roomy(impl.QueryPut(q))
		ownMemory(t, "QueryGet", func() queryAnswer { got, ok := impl.QueryGet(text); return queryAnswer{got, ok} }, text)
	}
}

func TestRanksAreNewMemory(t *testing.T) {
	notOk := copyIndex(mixedIndex(t))
	notOk.Next = 0
	long := indexWith(t, sampleFields(), docOf(t, "second; price=5; title=red pie"), docOf(t, "first; body=red red"), docOf(t, "third; price=5; title=red"), docOf(t, "zeroth; price=0"))
	for _, x := range []impl.Index{sharing(t), roomy(sharing(t)), roomy(long), roomy(notOk), roomy(indexWith(t, sampleFields(), sampleDocs(t)...)), roomy(indexWith(t, sampleFields()))} {
		for _, q := range sharingQueries() {
			given := []any{x, q}
			if !impl.QueryOk(q) {
				// What is within itself has no end to be looked at.
				given = given[:1]
			}
			ownMemory(t, "Score", func() int { return impl.Score(x, q, 1) }, given...)
			ownMemory(t, "Rank", func() []impl.Hit { return impl.Rank(x, q) }, given...)
			for _, field := range []string{"price", "title"} {
				ownMemory(t, "RankBy", func() []impl.Hit { return impl.RankBy(x, q, field, false) }, given...)
				ownMemory(t, "RankBy down", func() []impl.Hit { return impl.RankBy(x, q, field, true) }, given...)
			}
		}
	}
	list := roomy([]impl.Hit{{Id: 3, Key: "third", Score: 7}, {Id: 1, Key: "first", Score: -7}, {Id: 1, Key: "first"}, {Id: 2, Key: ""}})
	for _, given := range [][]impl.Hit{list, list[:2], list[1:3], list[:0], nil} {
		for skip := -1; skip < 6; skip++ {
			for many := -1; many < 6; many++ {
				ownMemory(t, "Page", func() []impl.Hit { return impl.Page(given, skip, many) }, given, list)
			}
		}
	}
}

func TestGroupsAreNewMemory(t *testing.T) {
	notOk := copyIndex(mixedIndex(t))
	notOk.Next = 0
	tagged := indexWith(t, sampleFields(), groupedDocs(t)...)
	for _, x := range []impl.Index{roomy(tagged), roomy(sharing(t)), roomy(notOk), roomy(indexWith(t, sampleFields()))} {
		for _, ids := range [][]int{{3, 1, 0, 1, 77, -1}, {0, 1, 2, 3, 4, 5, 6, 7}, {4}, {}} {
			ids = roomy(ids)
			for _, field := range []string{"color", "price", "zz"} {
				ownMemory(t, "Groups", func() []impl.Group { return impl.Groups(x, ids, field) }, x, ids)
				ownMemory(t, "StatOf", func() impl.Stat { return impl.StatOf(x, ids, field) }, x, ids)
				ownMemory(t, "Bins", func() []impl.Bin { return impl.Bins(x, ids, field, 5) }, x, ids)
				ownMemory(t, "Bins of no width", func() []impl.Bin { return impl.Bins(x, ids, field, 0) }, x, ids)
			}
		}
	}
}
