package tests

import (
	"slices"
	"strings"
	"testing"
	"unsafe"

	"loop.example/spandrel/impl"
)

// watched is a list with room behind its end, and what was in all of it.
type watched[T comparable] struct {
	list   []T
	before []T
}

func watch[T comparable](spare T, list ...T) watched[T] {
	all := append(slices.Clone(list), spare, spare, spare)
	return watched[T]{list: all[:len(list):len(all)], before: slices.Clone(all)}
}

// changed says whether anything in the list, or behind its end, is not as it was.
func (w watched[T]) changed() bool {
	return !slices.Equal(w.list[:cap(w.list)], w.before)
}

// spoil writes into all of an answer, spare room included.
func spoil[T any](list []T, with T) {
	all := list[:cap(list)]
	for i := range all {
		all[i] = with
	}
}

// twice asks for a list two times and spoils the first answer: the second must be as the first was, and no argument may show it.
func twice[T comparable](t *testing.T, what string, with T, changed func() bool, ask func() []T) {
	t.Helper()
	first := ask()
	was := slices.Clone(first)
	second := ask()
	if changed() {
		t.Errorf("%s writes into an argument", what)
	}
	spoil(first, with)
	if changed() {
		t.Errorf("%s hands out memory of an argument", what)
	}
	if !slices.Equal(second, was) || !slices.Equal(ask(), was) {
		t.Errorf("%s keeps what it handed out", what)
	}
}

func TestSetsAreNewMemory(t *testing.T) {
	for _, lists := range [][2][]int{{{1, 3, 5}, {0, 3, 4, 5}}, {{1, 3}, nil}, {nil, {2, 4}}, {{6}, {6}}, {{1}, {2}}, {{2, 1}, {3}}, {nil, nil}} {
		a, b := watch(-9, lists[0]...), watch(-9, lists[1]...)
		changed := func() bool { return a.changed() || b.changed() }
		twice(t, "SetAnd", 77, changed, func() []int { return impl.SetAnd(a.list, b.list) })
		twice(t, "SetOr", 77, changed, func() []int { return impl.SetOr(a.list, b.list) })
		twice(t, "SetLess", 77, changed, func() []int { return impl.SetLess(a.list, b.list) })
		twice(t, "SetAnd of itself", 77, changed, func() []int { return impl.SetAnd(a.list, a.list) })
		twice(t, "SetOr of itself", 77, changed, func() []int { return impl.SetOr(a.list, a.list) })
		impl.SetOk(a.list)
		impl.SetHas(a.list, 3)
		impl.SetGaps(a.list)
		if changed() {
			t.Errorf("%v is written into", lists)
		}
	}
	for _, s := range []string{"", "0 3 1 1", "5", "1 0"} {
		twice(t, "SetRead", 77, func() bool { return false }, func() []int { list, _ := impl.SetRead(s); return list })
	}
}

func TestWordsAreNewMemory(t *testing.T) {
	never := func() bool { return false }
	for _, s := range []string{"", "Red-apple, x9", "to the red trees"} {
		twice(t, "Words", impl.Word{Text: "!"}, never, func() []impl.Word { return impl.Words(s) })
		twice(t, "Terms", "!", never, func() []string { return impl.Terms(s) })
	}
}

func TestDocumentsAreNewMemory(t *testing.T) {
	fields := watch(impl.Field{Name: "behind"}, sampleFields()...)
	for _, cells := range [][]impl.Cell{sampleDoc().Cells, {{Name: "color", Text: "red,blue,red"}}, {{Name: "color", Text: "b,a"}, {Name: "price", Text: "x"}}, nil} {
		kept := watch(impl.Cell{Name: "behind"}, cells...)
		d := impl.Doc{Key: "k", Cells: kept.list}
		changed := func() bool { return fields.changed() || kept.changed() }
		twice(t, "DocTags", "!", changed, func() []string { return impl.DocTags(fields.list, d, "color") })
		twice(t, "DocGet", impl.Cell{Name: "!"}, changed, func() []impl.Cell { got, _ := impl.DocGet(impl.DocPut(d)); return got.Cells })
		twice(t, "FieldsGet", impl.Field{Name: "!"}, changed, func() []impl.Field { got, _ := impl.FieldsGet(impl.FieldsPut(fields.list)); return got })
		impl.FieldsOk(fields.list)
		impl.DocOk(fields.list, d)
		impl.DocText(d, "title")
		impl.DocNum(fields.list, d, "price")
		if changed() {
			t.Errorf("%v is written into", cells)
		}
	}
}

// shares says whether two texts have a byte of memory in common.
func shares(a string, b string) bool {
	if a == "" || b == "" {
		return false
	}
	fromA, fromB := uintptr(unsafe.Pointer(unsafe.StringData(a))), uintptr(unsafe.Pointer(unsafe.StringData(b)))
	return fromA < fromB+uintptr(len(b)) && fromB < fromA+uintptr(len(a))
}

func TestTextsAreNewMemory(t *testing.T) {
	own := func(what string, given string, answers ...string) {
		t.Helper()
		for _, s := range answers {
			if shares(given, s) {
				t.Errorf("%s: %q is a piece of %q", what, s, given)
			}
		}
	}
	text := strings.Clone("red apple trees 7")
	own("Fold", text, impl.Fold(text))
	own("Stem", text, impl.Stem(text))
	own("Terms", text, impl.Terms(text)...)
	for _, w := range impl.Words(text) {
		own("Words", text, w.Text)
	}
	written := impl.FieldsPut(sampleFields())
	list, _ := impl.FieldsGet(written)
	for _, f := range list {
		own("FieldsGet", written, f.Name)
	}
	written = impl.DocPut(sampleDoc())
	d, _ := impl.DocGet(written)
	own("DocGet", written, d.Key)
	for _, c := range d.Cells {
		own("DocGet", written, c.Name, c.Text)
		got, _ := impl.DocText(d, c.Name)
		own("DocText", c.Text, got)
		own("DocTags", c.Text, impl.DocTags(sampleFields(), d, c.Name)...)
	}
	key := strings.Clone("abc")
	own("DocPut", key, impl.DocPut(impl.Doc{Key: key}))
}
