package tests

import (
	"fmt"
	"regexp"
	"slices"
	"strconv"
	"strings"
	"testing"

	"loop.example/spandrel/impl"
)

const namePattern = "[a-z][a-z0-9]{0,7}"

func sampleFields() []impl.Field {
	return []impl.Field{{Name: "title", Kind: impl.FieldText, Weight: 3}, {Name: "body", Kind: impl.FieldText, Weight: 1}, {Name: "price", Kind: impl.FieldNum}, {Name: "color", Kind: impl.FieldTag}}
}

func sampleDoc() impl.Doc {
	return impl.Doc{Key: "k", Cells: []impl.Cell{{Name: "body", Text: "a=b; c"}, {Name: "color", Text: "red,blue,red"}, {Name: "price", Text: "-7"}, {Name: "title", Text: ""}}}
}

// oneCell is a document with one cell.
func oneCell(name string, text string) impl.Doc {
	return impl.Doc{Key: "k", Cells: []impl.Cell{{Name: name, Text: text}}}
}

func docEqual(a impl.Doc, b impl.Doc) bool {
	return a.Key == b.Key && slices.Equal(a.Cells, b.Cells)
}

// listsOfFields is fields that are ok, of all kinds, one to FieldMax of them.
func listsOfFields() [][]impl.Field {
	var single []impl.Field
	for w := 1; w <= 9; w++ {
		single = append(single, impl.Field{Name: "a", Kind: impl.FieldText, Weight: w})
	}
	single = append(single, impl.Field{Name: "a", Kind: impl.FieldNum}, impl.Field{Name: "a", Kind: impl.FieldTag})
	lists := [][]impl.Field{sampleFields(), {{Name: "abcdefg8", Kind: impl.FieldNum}}}
	for i, f := range single {
		lists = append(lists, []impl.Field{f})
		g := single[(i+1)%len(single)]
		g.Name = "z9"
		lists = append(lists, []impl.Field{g, f}, []impl.Field{f, g, {Name: "num", Kind: impl.FieldTag}, {Name: "text", Kind: impl.FieldNum}})
	}
	return lists
}

func wrongFields() [][]impl.Field {
	return [][]impl.Field{
		nil,
		{},
		{{}},
		{{Name: "a", Kind: 0}}, {{Name: "a", Kind: 4}}, {{Name: "a", Kind: -1}},
		{{Name: "a", Kind: 1, Weight: 0}}, {{Name: "a", Kind: 1, Weight: 10}}, {{Name: "a", Kind: 1, Weight: -1}},
		{{Name: "a", Kind: 2, Weight: 1}}, {{Name: "a", Kind: 3, Weight: 1}}, {{Name: "a", Kind: 3, Weight: -1}},
		{{Name: "", Kind: 2}}, {{Name: "A", Kind: 2}}, {{Name: "9a", Kind: 2}}, {{Name: "abcdefghi", Kind: 2}}, {{Name: "a b", Kind: 2}},
		{{Name: "a", Kind: 2}, {Name: "a", Kind: 2}}, {{Name: "a", Kind: 1, Weight: 1}, {Name: "b", Kind: 2}, {Name: "a", Kind: 3}},
		{{Name: "a", Kind: 2}, {Name: "b", Kind: 2}, {Name: "c", Kind: 2}, {Name: "d", Kind: 2}, {Name: "e", Kind: 2}},
	}
}

func wrongForms() []impl.Doc {
	long := strings.Repeat("x", impl.TextMax+1)
	return []impl.Doc{
		{}, {Key: "K"}, {Key: "9k"}, {Key: "k k"}, {Key: "abcdefghi"}, {Key: "k\n"}, {Key: "", Cells: []impl.Cell{{Name: "a"}}},
		oneCell("", ""), oneCell("A", ""), oneCell("9", ""), oneCell("abcdefghi", ""), oneCell("a=", ""),
		oneCell("title", long), oneCell("title", "a\nb"), oneCell("title", "\x1f"), oneCell("title", "\x7f"), oneCell("title", "caf\xc3\xa9"), oneCell("title", "\x00"),
		{Key: "k", Cells: []impl.Cell{{Name: "b"}, {Name: "a"}}},
		{Key: "k", Cells: []impl.Cell{{Name: "a"}, {Name: "a"}}},
		{Key: "k", Cells: []impl.Cell{{Name: "a"}, {Name: "b"}, {Name: "c"}, {Name: "d"}, {Name: "e"}}},
		{Key: "k", Cells: []impl.Cell{{Name: "ab"}, {Name: "a"}}},
	}
}

func rightForms() []impl.Doc {
	return []impl.Doc{
		{Key: "k"}, {Key: "abcdefg8"}, sampleDoc(), oneCell("title", strings.Repeat("~", impl.TextMax)), oneCell("a", " "), oneCell("a", "="), oneCell("abcdefg8", "==a=="),
		{Key: "k", Cells: []impl.Cell{{Name: "a", Text: "1"}, {Name: "a0", Text: "2"}, {Name: "aa", Text: "3"}, {Name: "b", Text: "4"}}},
	}
}

func TestLimitsOfDocuments(t *testing.T) {
	if s := fmt.Sprint(impl.FieldMax, impl.NameMax, impl.NumMax, impl.TagMax, impl.FieldText, impl.FieldNum, impl.FieldTag); s != "4 8 999999999 4 1 2 3" {
		t.Error(s)
	}
}

func TestP63Names(t *testing.T) {
	pattern := regexp.MustCompile(`\A` + namePattern + `\z`)
	list := append(sampleTexts(), sampleWords()...)
	for _, s := range []string{"a", "abcdefgh", "abcdefghi", "a2345678", "a23456789", "z9", "price"} {
		list = append(list, nearTexts(s)...)
	}
	for _, s := range list {
		if impl.NameOk(s) != pattern.MatchString(s) {
			t.Errorf("%q: %v", s, impl.NameOk(s))
		}
		if !impl.NameOk(s) {
			continue
		}
		words := impl.Words(s)
		if len(words) != 1 || words[0].Text != s || impl.Fold(s) != s || impl.NameOk("7"+s) {
			t.Errorf("%q: %v", s, words)
		}
	}
}

func TestP64AFieldMore(t *testing.T) {
	for _, list := range listsOfFields() {
		if !impl.FieldsOk(list) {
			t.Errorf("%v is not ok", list)
		}
		more := impl.Field{Name: "more", Kind: impl.FieldNum}
		if got := impl.FieldsOk(append(slices.Clone(list), more)); got != (len(list) < impl.FieldMax) {
			t.Errorf("%v and one more: %v", list, got)
		}
		for _, f := range list {
			if impl.FieldsOk(append(slices.Clone(list), f)) || impl.FieldsOk(append(slices.Clone(list), impl.Field{Name: f.Name, Kind: impl.FieldTag})) {
				t.Errorf("%v and %v again", list, f)
			}
		}
	}
	for _, list := range wrongFields() {
		if impl.FieldsOk(list) {
			t.Errorf("%v is ok", list)
		}
	}
}

func TestP6FieldsAreReadBack(t *testing.T) {
	if s := impl.FieldsPut(sampleFields()); s != "title:text:3 body:text:1 price:num color:tag" {
		t.Error(s)
	}
	for _, list := range listsOfFields() {
		text := impl.FieldsPut(list)
		got, ok := impl.FieldsGet(text)
		if text == "" || !ok || !slices.Equal(got, list) {
			t.Errorf("%v: %q", list, text)
		}
	}
	for _, list := range wrongFields() {
		if s := impl.FieldsPut(list); s != "" {
			t.Errorf("%v: %q", list, s)
		}
	}
}

func TestP6TextsThatAreNearlyFields(t *testing.T) {
	one := namePattern + ":(?:text:[1-9]|num|tag)"
	pattern := regexp.MustCompile(`\A` + one + "(?: " + one + `){0,3}\z`)
	list := append(sampleTexts(), "a:num b:num c:num d:num e:num", "a:text:01", "a:text:1:", "a:num:", ":num", "a::num", "a:text:", "a:text:+1", "a:text:1000000001", "a:NUM", "a:num\n")
	for _, f := range listsOfFields()[:6] {
		list = append(list, nearTexts(impl.FieldsPut(f))...)
	}
	for _, s := range append(list, nearTexts("a:num b:text:9 c:tag d:num")...) {
		want := pattern.MatchString(s)
		seen := map[string]int{}
		for _, part := range strings.Split(s, " ") {
			name, _, _ := strings.Cut(part, ":")
			seen[name]++
			want = want && seen[name] == 1
		}
		got, ok := impl.FieldsGet(s)
		if ok != want || !ok && len(got) != 0 || ok && impl.FieldsPut(got) != s {
			t.Errorf("%q: %v %v", s, got, ok)
		}
	}
}

func TestP7DocumentsAreReadBack(t *testing.T) {
	if s := impl.DocPut(sampleDoc()); s != "k\nbody=a=b; c\ncolor=red,blue,red\nprice=-7\ntitle=" {
		t.Errorf("%q", s)
	}
	for _, d := range rightForms() {
		text := impl.DocPut(d)
		got, ok := impl.DocGet(text)
		if text == "" || !ok || !docEqual(got, d) {
			t.Errorf("%v: %q", d, text)
		}
	}
	for _, d := range wrongForms() {
		if s := impl.DocPut(d); s != "" {
			t.Errorf("%v: %q", d, s)
		}
	}
}

func TestP7TextsThatAreNearlyDocuments(t *testing.T) {
	pattern := regexp.MustCompile(`\A` + namePattern + `(?:\n` + namePattern + `=[ -~]{0,60}){0,4}\z`)
	full := "k\na=" + strings.Repeat("x", impl.TextMax) + "\nb=\nc=\nd="
	list := append(sampleTexts(), full, full+"x", full+"\ne=", "k\n", "\nk", "k\n=", "k\na", "k\r\na=1", "abcdefgh\na=1\nb=2\nc=3\nd=4")
	list = append(list, strings.Replace(full, "=x", "=xx", 1))
	for _, s := range []string{"k", "abcdefgh", "k\na=1\nb=2", "k\na=\nab==\nb= \nba=~", full} {
		list = append(list, nearTexts(s)...)
	}
	for _, s := range list {
		want := pattern.MatchString(s)
		var names []string
		for _, line := range strings.Split(s, "\n")[1:] {
			name, _, _ := strings.Cut(line, "=")
			names = append(names, name)
		}
		want = want && isAscendingTexts(names)
		got, ok := impl.DocGet(s)
		if ok != want || !ok && !docEqual(got, impl.Doc{}) || ok && impl.DocPut(got) != s {
			t.Errorf("%q: %v %v", s, got, ok)
		}
	}
}

func TestP8WhatIsInAField(t *testing.T) {
	twice := impl.Doc{Key: "?", Cells: []impl.Cell{{Name: "b", Text: "1"}, {Name: "a", Text: "\xff"}, {Name: "b", Text: "2"}, {Name: "", Text: "n"}}}
	for _, d := range append(append(rightForms(), wrongForms()...), twice) {
		for _, name := range []string{"", "a", "b", "A", "body", "title", "titl", "titles", "Title", "price", "\xff"} {
			at := slices.IndexFunc(d.Cells, func(c impl.Cell) bool { return c.Name == name })
			text, there := impl.DocText(d, name)
			if there != (at >= 0) || there && text != d.Cells[at].Text || !there && text != "" {
				t.Errorf("%v, %q: %q %v", d, name, text, there)
			}
		}
	}
	if s, _ := impl.DocText(twice, "b"); s != "1" {
		t.Errorf("not the first: %q", s)
	}
}

// numTexts is texts that are numbers, or nearly so.
func numTexts() []string {
	list := []string{"", "0", "-0", "00", "-", "--1", "+1", "1.0", "1e3", "01", "-01", " 1", "1 ", "999999999", "-999999999", "1000000000", "-1000000000", "0999999999", "99999999999999999999999", "-1", "7", "10", "1_0", "0x1"}
	for _, s := range []string{"0", "-7", "120", "-999999999"} {
		list = append(list, nearTexts(s)...)
	}
	return list
}

func TestP9Numbers(t *testing.T) {
	fields := sampleFields()
	pattern := regexp.MustCompile(`\A(?:0|-?[1-9][0-9]{0,8})\z`)
	for _, s := range numTexts() {
		d := oneCell("price", s)
		want := pattern.MatchString(s)
		n, has := impl.DocNum(fields, d, "price")
		if impl.DocOk(fields, d) != want || has != want || !has && n != 0 {
			t.Errorf("%q: %d %v", s, n, has)
		}
		if has && (strconv.Itoa(n) != s || n < -impl.NumMax || n > impl.NumMax) {
			t.Errorf("%q: %d", s, n)
		}
		if len(impl.DocTags(fields, d, "price")) != 0 {
			t.Errorf("%q has tags", s)
		}
	}
}

func TestP9NoNumber(t *testing.T) {
	fields := sampleFields()
	none := func(what string, fields []impl.Field, d impl.Doc, name string) {
		if n, has := impl.DocNum(fields, d, name); n != 0 || has {
			t.Errorf("%s: %d %v", what, n, has)
		}
	}
	none("no cell", fields, oneCell("title", "7"), "price")
	none("a text", fields, oneCell("title", "7"), "title")
	none("a tag", fields, oneCell("color", "a7"), "color")
	none("no field", fields, oneCell("other", "7"), "other")
	none("no name", fields, oneCell("price", "7"), "")
	none("no fields", nil, oneCell("price", "7"), "price")
	none("wrong fields", append(slices.Clone(fields), fields[0]), oneCell("price", "7"), "price")
	none("no key", fields, impl.Doc{Cells: oneCell("price", "7").Cells}, "price")
	none("another cell is wrong", fields, impl.Doc{Key: "k", Cells: []impl.Cell{{Name: "color", Text: ""}, {Name: "price", Text: "7"}}}, "price")
	none("not by name", fields, impl.Doc{Key: "k", Cells: []impl.Cell{{Name: "price", Text: "7"}, {Name: "color", Text: "a"}}}, "price")
	if n, has := impl.DocNum(fields, sampleDoc(), "price"); n != -7 || !has {
		t.Error(n, has)
	}
}

func TestP10Tags(t *testing.T) {
	fields := sampleFields()
	for _, c := range []struct{ text, want string }{
		{"red", "red"}, {"red,blue", "blue red"}, {"red,blue,red", "blue red"}, {"b,b,b,b", "b"}, {"d,c,b,a", "a b c d"},
		{"ab,a,abc,a0", "a a0 ab abc"}, {"abcdefgh,bcdefgh8,cdefgh89,defgh890", "abcdefgh bcdefgh8 cdefgh89 defgh890"},
	} {
		d := oneCell("color", c.text)
		got := impl.DocTags(fields, d, "color")
		if !impl.DocOk(fields, d) || strings.Join(got, " ") != c.want || !isAscendingTexts(got) {
			t.Errorf("%q: %q", c.text, got)
		}
		if n, has := impl.DocNum(fields, d, "color"); n != 0 || has {
			t.Errorf("%q: %d", c.text, n)
		}
	}
}

func TestP10TextsThatAreNearlyTags(t *testing.T) {
	fields := sampleFields()
	pattern := regexp.MustCompile(`\A` + namePattern + "(?:," + namePattern + `){0,3}\z`)
	list := []string{"", ",", "a,", ",a", "a,,b", "a,b,c,d,e", "a,a,a,a,a", "A", "9", "a b", "a;b", "abcdefghi", "a, b"}
	for _, s := range append(append(list, nearTexts("red,blue,red")...), nearTexts("a,b,c,d")...) {
		d := oneCell("color", s)
		want := pattern.MatchString(s)
		got := impl.DocTags(fields, d, "color")
		if impl.DocOk(fields, d) != want || (len(got) > 0) != want || !isAscendingTexts(got) {
			t.Errorf("%q: %q", s, got)
		}
		for _, tag := range got {
			if !impl.NameOk(tag) || !slices.Contains(strings.Split(s, ","), tag) {
				t.Errorf("%q: %q", s, tag)
			}
		}
	}
}

func TestP10NoTags(t *testing.T) {
	fields := sampleFields()
	red := oneCell("color", "red")
	for i, got := range [][]string{
		impl.DocTags(nil, red, "color"), impl.DocTags(fields, red, "price"), impl.DocTags(fields, red, ""), impl.DocTags(fields, oneCell("title", "red"), "title"),
		impl.DocTags(fields, oneCell("title", "red"), "color"), impl.DocTags(fields, oneCell("other", "red"), "other"), impl.DocTags(fields, impl.Doc{Cells: red.Cells}, "color"),
		impl.DocTags(fields, impl.Doc{Key: "k", Cells: []impl.Cell{{Name: "color", Text: "red"}, {Name: "price", Text: "x"}}}, "color"),
	} {
		if len(got) != 0 {
			t.Errorf("%d: %q", i, got)
		}
	}
}

func TestP11DocumentsThatAreOk(t *testing.T) {
	fields := sampleFields()
	for _, d := range []impl.Doc{{Key: "k"}, sampleDoc(), oneCell("title", strings.Repeat("x", impl.TextMax)), oneCell("body", ""), oneCell("price", "0")} {
		if !impl.DocOk(fields, d) {
			t.Errorf("%v is not ok", d)
		}
		for less := d.Cells; len(less) > 0; less = less[:len(less)-1] {
			if !impl.DocOk(fields, impl.Doc{Key: d.Key, Cells: less[:len(less)-1]}) {
				t.Errorf("%v without its last cell", less)
			}
		}
		if len(d.Cells) == impl.FieldMax {
			d.Cells = d.Cells[:len(d.Cells)-1]
		}
		if impl.DocOk(fields, impl.Doc{Key: d.Key, Cells: append(slices.Clone(d.Cells), impl.Cell{Name: "zz", Text: "1"})}) {
			t.Errorf("%v with a cell of no field", d)
		}
	}
	for _, d := range wrongForms() {
		wide := []impl.Field{{Name: "a", Kind: 1, Weight: 1}, {Name: "b", Kind: 1, Weight: 1}, {Name: "ab", Kind: 1, Weight: 1}, {Name: "title", Kind: 1, Weight: 1}}
		if impl.DocOk(wide, d) || impl.DocOk(fields, d) {
			t.Errorf("%v is ok", d)
		}
	}
	for _, list := range wrongFields() {
		if impl.DocOk(list, impl.Doc{Key: "k"}) {
			t.Errorf("ok by %v", list)
		}
	}
}

func TestP11KindsAskOfTexts(t *testing.T) {
	fields := sampleFields()
	for _, s := range []string{"red", "1", "-0", "", "a,a", "A b"} {
		if !impl.DocOk(fields, oneCell("title", s)) {
			t.Errorf("text %q", s)
		}
	}
	if impl.DocOk(fields, oneCell("price", "red")) || impl.DocOk(fields, oneCell("color", "1")) || impl.DocOk(fields, oneCell("color", "Red")) || impl.DocOk(fields, oneCell("other", "x")) {
		t.Error("a kind is not asked")
	}
}
