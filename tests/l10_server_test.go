package tests

import (
	"fmt"
	"regexp"
	"slices"
	"strconv"
	"strings"
	"testing"

	"loop.example/spandrel/impl"
)

// exampleLines is the lines of the document's example, and exampleTold what is told of them, a line for each, but two for `begin`.
func exampleLines() []string {
	return []string{
		"put a color=red;price=5;title=Red apples",
		"put b body=an apple pie;color=blue,red;title=Pie",
		"put c body=the red tree;price=-3",
		"find?red",
		"rank?apple",
		`find?title:"red apple"`,
		"find?(red -apple)",
		"find?@price:-5..0",
		"find?@color:{red}",
		"up price?*",
		"tags color?*",
		"stat price?*",
		"bins price 5?*",
		"mark b body?(pie | apple)",
		"near aple",
		"find?tr*",
		"put a price=7",
		"find?red",
		"drop zz",
		"hint 5 red apple",
		"hint 9 red tree",
		"begin red",
		"find?the",
		"rank?(apple | pie)",
		"what",
	}
}

func exampleTold() []string {
	return []string{
		"ok", "ok", "ok", "a c", "a=450 b=150", "a", "c", "c", "a b", "c=-3 a=5 b=0", "red=2 blue=1", "2 2 -3 5", "-5=1 5=1", "an [apple] [pie]", "apple", "c", "ok", "c", "no", "ok", "ok", "red tree", "red apple", "what", "b=1500", "what",
	}
}

func serverEqual(a impl.Server, b impl.Server) bool {
	return indexEqual(a.Index, b.Index) && slices.Equal(a.Hints, b.Hints) && slices.Equal(a.Log, b.Log)
}

// serverOf is a server of sampleFields on which lines were done that all change something.
func serverOf(t testing.TB, lines ...string) impl.Server {
	t.Helper()
	s, ok := impl.ServerNew(sampleFields())
	if !ok {
		t.Fatal("no server")
	}
	for _, line := range lines {
		x, told := impl.ServerDo(s, line)
		if told != "ok\n" {
			t.Fatalf("%q: %q", line, told)
		}
		s = x
	}
	return s
}

// sampleLines is changes that can all be done one behind the other.
func sampleLines() []string {
	return []string{
		"put a color=red;price=5;title=Red apples", "hint 5 red apple", "put b body=an apple pie;color=blue,red;title=Pie", "put c body=the red tree of red;price=-3", "hint 9 red tree", "put ok ", "hint 3 ok", "put a price=7;title=", "drop c", "hint 1 red apple", "put c body=ape, cat;title=a=b ? c ", "hint 9 red pie",
	}
}

// sampleServers is empty ones, some on the way, one with all that may be in it, and one whose log is full.
func sampleServers(t testing.TB) []impl.Server {
	lines := sampleLines()
	list := []impl.Server{serverOf(t), serverOf(t, lines[:1]...), serverOf(t, lines[:6]...), serverOf(t, lines...), serverOf(t, fullLines()...)}
	var many []string
	for i := range impl.DocMax {
		many = append(many, "put k"+strconv.Itoa(i)+" color=t"+strconv.Itoa(i%3)+";price="+strconv.Itoa(i-3)+";title=red w"+strconv.Itoa(i))
	}
	for i := range impl.HintMax {
		many = append(many, "hint "+strconv.Itoa(1+i%3)+" h"+strconv.Itoa(i))
	}
	return append(list, serverOf(t, many...))
}

// fullLines is as many changes as a log may have.
func fullLines() []string {
	lines := sampleLines()
	for i := range impl.LogMax - len(lines) {
		lines = append(lines, "put a title=red "+strconv.Itoa(i))
	}
	return lines
}

func TestTheExampleOfTheServer(t *testing.T) {
	lines, told := exampleLines(), exampleTold()
	if len(lines) != 25 || len(told) != 26 {
		t.Fatal(len(lines), len(told))
	}
	if got := impl.Session(lines); got != strings.Join(told, "\n")+"\n" {
		t.Error(got)
	}
	s, got := impl.ServerPlay(sampleFields(), lines)
	if got != strings.Join(told, "\n")+"\n" || !impl.ServerOk(s) || !slices.Equal(s.Log, []string{lines[0], lines[1], lines[2], lines[16], lines[19], lines[20]}) {
		t.Error(s.Log, got)
	}
}

func TestP56AServerBeginsWithNothing(t *testing.T) {
	if impl.LogMax != 30 {
		t.Error(impl.LogMax)
	}
	for _, fields := range listsOfFields() {
		s, ok := impl.ServerNew(fields)
		x, _ := impl.IndexNew(fields)
		if !ok || !serverEqual(s, impl.Server{Index: x}) || !impl.ServerOk(s) || impl.ServerText(s) != "" {
			t.Errorf("%v: %v", fields, s)
		}
	}
	for _, fields := range wrongFields() {
		s, ok := impl.ServerNew(fields)
		if ok || !serverEqual(s, impl.Server{}) || impl.ServerOk(impl.Server{Index: impl.Index{Fields: fields}}) {
			t.Errorf("%v: %v", fields, s)
		}
	}
}

// toldCases is lines, what is told of each by the server of sampleLines, and nothing else.
func toldCases() [][2]string {
	return [][2]string{
		// What is no line.
		{"", "what"}, {" ", "what"}, {"what", "what"}, {"Find?red", "what"}, {"FIND?red", "what"}, {"putx a ", "what"}, {"pu a ", "what"}, {"put?*", "what"}, {"drop?a", "what"}, {"hint?*", "what"}, {"begin?red", "what"}, {"near?red", "what"}, {"?", "what"}, {"?red", "what"}, {"??", "what"}, {" put a ", "what"}, {" drop a", "what"}, {" hint 1 x", "what"}, {" begin r", "what"}, {" near red", "what"}, {" find?red", "what"}, {" rank?red", "what"}, {" up price?*", "what"}, {" tags color?*", "what"}, {" stat price?*", "what"}, {" bins price 5?*", "what"}, {" mark a title?red", "what"},
		// put.
		{"put", "no"}, {"put ", "no"}, {"put a", "no"}, {"put  ", "no"}, {"put  a ", "no"}, {"put a  ", "no"}, {"put A ", "no"}, {"put 1a ", "no"}, {"put a-b ", "no"}, {"put abcdefghi ", "no"}, {"put  title=x", "no"}, {"put a  title=x", "no"}, {"put a title", "no"}, {"put a title=x;", "no"}, {"put a ;title=x", "no"}, {"put a body=y;;title=x", "no"}, {"put a ;", "no"}, {"put a =", "no"}, {"put a =x", "no"}, {"put a title=x;title=y", "no"}, {"put a title=x;title=x", "no"}, {"put a title=x;body=y", "no"}, {"put a zz=1", "no"}, {"put a Title=x", "no"}, {"put a price=x", "no"}, {"put a price=", "no"}, {"put a price=05", "no"}, {"put a price=-0", "no"}, {"put a price=+5", "no"}, {"put a price= 5", "no"}, {"put a price=5 ", "no"}, {"put a price=1000000000", "no"}, {"put a price=5=5", "no"}, {"put a color=", "no"}, {"put a color=Red", "no"}, {"put a color=red,", "no"}, {"put a color=a,b,c,d,e", "no"}, {"put a color=red blue", "no"}, {"put a title=x;price=5", "no"}, {"put a title=" + strings.Repeat("x", 61), "no"},
		// drop.
		{"drop", "no"}, {"drop ", "no"}, {"drop zz", "no"}, {"drop A", "no"}, {"drop  a", "no"}, {"drop a ", "no"}, {"drop a b", "no"}, {"drop a?", "no"},
		// hint.
		{"hint", "no"}, {"hint ", "no"}, {"hint 5", "no"}, {"hint 5 ", "no"}, {"hint  5 red", "no"}, {"hint 5  red", "no"}, {"hint 5 red ", "no"}, {"hint 5 red  tree", "no"}, {"hint 0 red", "no"}, {"hint 05 red", "no"}, {"hint 00 red", "no"}, {"hint -5 red", "no"}, {"hint +5 red", "no"}, {"hint x red", "no"}, {"hint  red", "no"}, {"hint 1000000000 red", "no"}, {"hint 0000000005 red", "no"}, {"hint 99999999999999999999 red", "no"}, {"hint 5 Red", "no"}, {"hint 5 red-tree", "no"}, {"hint 999999999 ok", "no"}, {"hint 999999997 ok", "no"}, {"hint 5 " + strings.Repeat("x", 61), "no"}, {"hint red 5", "no"}, {"hint 5.0 red", "no"},
		// begin.
		{"begin", "what"}, {"begin ", "red pie\nred tree\nred apple"}, {"begin r", "red pie\nred tree\nred apple"}, {"begin red t", "red tree"}, {"begin red tree", "red tree"}, {"begin o", "ok"}, {"begin zz", ""}, {"begin Red", ""}, {"begin  red", ""}, {"begin red ", "red pie\nred tree\nred apple"}, {"begin red  ", ""}, {"begin red?*", ""}, {"begin ?", ""}, {"begin " + strings.Repeat("x", 394), ""}, {"begin " + strings.Repeat("x", 395), "what"},
		// near.
		{"near", "what"}, {"near ", "b c"}, {"near aple", "ape apple"}, {"near APLE", "ape apple"}, {"near ape", "ape"}, {"near zzz", ""}, {"near pie", "pie"}, {"near pies", "pie"}, {"near pi e", "pie"}, {"near  pie", "pie"}, {"near pie ", "pie"}, {"near pie?", "pie"}, {"near " + strings.Repeat("x", 60), ""}, {"near " + strings.Repeat("x", 61), "what"}, {"near c", "c b"},
	}
}

// questionCases is lines with a question, and what is told of each by the server of sampleLines.
func questionCases() [][2]string {
	return [][2]string{
		// What is no question, or does not fit.
		{"find", "what"}, {"find?", "what"}, {"find red", "what"}, {"find?the", "what"}, {"find?red apple", "what"}, {"find? red", "what"}, {"find?red ", "what"}, {"find??red", "what"}, {"find?red?", "what"}, {"find?(red)", "what"}, {"find?zz:red", "what"}, {"find?price:red", "what"}, {"find?color:red", "what"}, {"find?@title:1..2", "what"}, {"find?@price:{red}", "what"}, {"find?@color:1..2", "what"}, {"find?@zz:1..2", "what"}, {"find?----*", "what"}, {"rank?the", "what"}, {"up price?the", "what"}, {"down price?the", "what"}, {"tags color?the", "what"}, {"stat price?the", "what"}, {"bins price 5?the", "what"}, {"mark a title?the", "what"}, {"mark zz title?the", "what"},
		// find.
		{"find?*", "b ok a c"}, {"find?pie", "b"}, {"find?title:pie", "b"}, {"find?zz", ""}, {"find?-*", ""}, {"find?(ape | pie)", "b c"}, {"find?@price:7..7", "a"}, {"find?@color:{red}", "b"}, {"find ?*", "what"}, {"find a?*", "what"}, {"find  ?*", "what"}, {"find price?*", "what"},
		// rank.
		{"rank?*", "a=0 b=0 c=0 ok=0"}, {"rank?pie", "b=1600"}, {"rank?zz", ""}, {"rank?(pie | ape)", "b=1600 c=400"}, {"rank ?*", "what"}, {"rank price?*", "what"}, {"rank", "what"}, {"rank?", "what"},
		// up and down.
		{"up price?*", "a=7 b=0 c=0 ok=0"}, {"down price?*", "a=7 b=0 c=0 ok=0"}, {"up price?zz", ""}, {"up?*", "what"}, {"up ?*", "what"}, {"up title?*", "what"}, {"up color?*", "what"}, {"up zz?*", "what"}, {"up Price?*", "what"}, {"up  price?*", "what"}, {"up price ?*", "what"}, {"up price price?*", "what"}, {"up price", "what"}, {"up price?", "what"}, {"down?*", "what"}, {"down ?*", "what"}, {"down title?*", "what"}, {"down color?*", "what"}, {"down zz?*", "what"}, {"down  price?*", "what"}, {"down price ?*", "what"}, {"down price down?*", "what"},
		// tags.
		{"tags color?*", "blue=1 red=1"}, {"tags color?zz", ""}, {"tags?*", "what"}, {"tags ?*", "what"}, {"tags price?*", "what"}, {"tags title?*", "what"}, {"tags zz?*", "what"}, {"tags  color?*", "what"}, {"tags color ?*", "what"}, {"tags color color?*", "what"},
		// stat.
		{"stat price?*", "1 7 7 7"}, {"stat price?pie", "0 0 0 0"}, {"stat?*", "what"}, {"stat ?*", "what"}, {"stat color?*", "what"}, {"stat title?*", "what"}, {"stat zz?*", "what"}, {"stat  price?*", "what"}, {"stat price ?*", "what"}, {"stat price 5?*", "what"},
		// bins.
		{"bins price 5?*", "5=1"}, {"bins price 1?*", "7=1"}, {"bins price 999999999?*", "0=1"}, {"bins price 5?pie", ""}, {"bins?*", "what"}, {"bins ?*", "what"}, {"bins price?*", "what"}, {"bins price ?*", "what"}, {"bins 5?*", "what"}, {"bins 5 price?*", "what"}, {"bins price 0?*", "what"}, {"bins price 05?*", "what"}, {"bins price -5?*", "what"}, {"bins price +5?*", "what"}, {"bins price x?*", "what"}, {"bins price 1000000000?*", "what"}, {"bins price 0000000005?*", "what"}, {"bins price  5?*", "what"}, {"bins  price 5?*", "what"}, {"bins price 5 ?*", "what"}, {"bins price 5 5?*", "what"}, {"bins color 5?*", "what"}, {"bins title 5?*", "what"}, {"bins zz 5?*", "what"},
		// mark.
		{"mark b body?pie", "an apple [pie]"}, {"mark b body?(pie | apple)", "an [apple] [pie]"}, {"mark b title?pie", "[Pie]"}, {"mark b body?*", "an apple pie"}, {"mark b body?zz", "an apple pie"}, {"mark b body?-pie", "an apple pie"}, {"mark b body?pi*", "an apple pie"}, {`mark b body?"an apple pies"`, "an [apple] [pie]"}, {"mark b body?title:pie", "an apple [pie]"}, {"mark c title?c", "a=b ? [c] "}, {"mark a title?red", ""}, {"mark a body?red", "none"}, {"mark ok title?red", "none"}, {"mark zz title?red", "none"}, {"mark A title?red", "none"}, {"mark b price?*", "what"}, {"mark b color?*", "what"}, {"mark a price?*", "what"}, {"mark b zz?*", "what"}, {"mark zz zz?*", "what"}, {"mark zz price?*", "what"}, {"mark b Body?*", "what"}, {"mark?*", "what"}, {"mark b?*", "what"}, {"mark body?*", "what"}, {"mark  b body?*", "what"}, {"mark b  body?*", "what"}, {"mark b body ?*", "what"}, {"mark b body b?*", "what"}, {"mark b ?*", "what"}, {"mark ?*", "what"}, {"mark body b?*", "what"},
	}
}

func TestP57WhatIsToldOfALine(t *testing.T) {
	s := serverOf(t, sampleLines()...)
	for _, c := range slices.Concat(toldCases(), questionCases()) {
		want := c[1] + "\n"
		if strings.HasPrefix(c[0], "begin ") && c[1] == "" {
			want = ""
		}
		x, told := impl.ServerDo(s, c[0])
		if told != want || !serverEqual(x, s) {
			t.Errorf("%q: %q", c[0], told)
		}
	}
}

func TestP57WhatIsChanged(t *testing.T) {
	s := serverOf(t, sampleLines()...)
	for _, line := range []string{
		"put a ", "put z9 ", "put abcdefgh ", "put a title=", "put a title=a=b", "put a title==", "put a body=x;title=y", "put a body=,,;color=a,b,c,d;price=-999999999;title= x ", "put n price=0", "put n color=red,red", "put a title=" + strings.Repeat("x", 60), "put a title=?", "put ok body=find?red", "drop a", "drop ok", "drop c", "hint 1 red tree", "hint 999999999 new", "hint 999999996 ok", "hint 999999999 " + strings.Repeat("x", 60), "hint 9 the of a", "hint 1 9",
		"put a body=" + strings.Repeat("b", 60) + ";title=" + strings.Repeat("t", 60),
	} {
		x, told := impl.ServerDo(s, line)
		if told != "ok\n" || !slices.Equal(x.Log, append(slices.Clone(s.Log), line)) || !impl.ServerOk(x) || serverEqual(x, s) {
			t.Errorf("%q: %q %v", line, told, x.Log)
		}
		want, _, _ := doneByLook(s, line)
		if !serverEqual(x, want) {
			t.Errorf("%q: %v, not %v", line, x, want)
		}
	}
}

func TestP57BytesOfALine(t *testing.T) {
	s := serverOf(t)
	for i := range 256 {
		want, hint := "ok\n", "no\n"
		b := string([]byte{byte(i)})
		switch {
		case i < 32 || i > 126:
			want, hint = "what\n", "what\n"
		case b == ";":
			want = "no\n"
		case 'a' <= i && i <= 'z' || '0' <= i && i <= '9' || b == " ":
			hint = "ok\n"
		}
		if _, told := impl.ServerDo(s, "put a title=x"+b+"y"); told != want {
			t.Errorf("byte %d: %q", i, told)
		}
		if _, told := impl.ServerDo(s, "hint 1 x"+b+"y"); told != hint {
			t.Errorf("byte %d of a hint: %q", i, told)
		}
		for _, line := range []string{b, b + "find?*", "find?*" + b} {
			if _, told := impl.ServerDo(s, line); told != "what\n" && line != "find?*" {
				t.Errorf("%q: %q", line, told)
			}
		}
	}
}

// wideServer is one whose fields have room for lines of any size.
func wideServer(t testing.TB) impl.Server {
	t.Helper()
	var fields []impl.Field
	for i := range impl.FieldMax {
		fields = append(fields, impl.Field{Name: "abcdefg" + strconv.Itoa(i), Kind: impl.FieldText, Weight: 9})
	}
	s, ok := impl.ServerNew(fields)
	if !ok {
		t.Fatal("no server")
	}
	return s
}

func TestP57SizesOfALine(t *testing.T) {
	s := wideServer(t)
	if _, told := impl.ServerDo(s, "put abcdefgh abcdefg0="+strings.Repeat("x", 60)+";abcdefg1="+strings.Repeat("x", 60)+";abcdefg2="+strings.Repeat("x", 60)+";abcdefg3="+strings.Repeat("x", 60)); told != "ok\n" {
		t.Errorf("the longest document: %q", told)
	}
	for size := 300; size < 410; size++ {
		want := []string{"no\n", "", "what\n"}
		if size > 400 {
			want = []string{"what\n", "what\n", "what\n"}
		}
		for i, begin := range []string{"put a abcdefg0=", "begin ", "zz "} {
			if _, told := impl.ServerDo(s, begin+strings.Repeat("x", size-len(begin))); told != want[i] {
				t.Errorf("%d bytes of %q: %q", size, begin, told)
			}
		}
	}
	for _, size := range []int{impl.QueryMax - 1, impl.QueryMax, impl.QueryMax + 1} {
		q := "(" + strings.Repeat("a", 60) + " | " + strings.Repeat("b", 60) + " | " + strings.Repeat("c", 60) + " | "
		q += strings.Repeat("d", size-len(q)-1) + ")"
		want := "\n"
		if size > impl.QueryMax {
			want = "what\n"
		}
		if _, told := impl.ServerDo(s, "find?"+q); told != want {
			t.Errorf("a question of %d bytes: %q", size, told)
		}
	}
}

func TestP57AFullLog(t *testing.T) {
	s := serverOf(t, fullLines()...)
	if len(s.Log) != impl.LogMax || !impl.ServerOk(s) {
		t.Fatal(len(s.Log))
	}
	for _, line := range []string{"put a ", "put n title=x", "drop a", "hint 1 red tree", "hint 1 new", "drop zz", "put a", "put A ", "hint x y", "put", "drop", "hint", "put a zz=1"} {
		if x, told := impl.ServerDo(s, line); told != "full\n" || !serverEqual(x, s) {
			t.Errorf("%q: %q", line, told)
		}
	}
	for _, c := range [][2]string{{"find?*", "b ok c a\n"}, {"begin red t", "red tree\n"}, {"near pi", "pie\n"}, {"putx", "what\n"}, {"put a title=\n", "what\n"}, {"put " + strings.Repeat("x", 397), "what\n"}} {
		if x, told := impl.ServerDo(s, c[0]); told != c[1] || !serverEqual(x, s) {
			t.Errorf("%q: %q", c[0], told)
		}
	}
	last := serverOf(t, fullLines()[:impl.LogMax-1]...)
	if x, told := impl.ServerDo(last, "drop zz"); told != "no\n" || len(x.Log) != impl.LogMax-1 {
		t.Errorf("the last that may be: %q", told)
	}
	if x, told := impl.ServerDo(last, "drop a"); told != "ok\n" || len(x.Log) != impl.LogMax {
		t.Errorf("the last that may be: %q", told)
	}
}

func TestP57WhatIsTooMany(t *testing.T) {
	var lines []string
	for i := range impl.DocMax {
		lines = append(lines, "put k"+strconv.Itoa(i)+" ")
	}
	for i := range impl.HintMax {
		lines = append(lines, "hint 999999998 h"+strconv.Itoa(i))
	}
	s := serverOf(t, lines...)
	for _, c := range [][2]string{{"put k8 ", "no"}, {"put k3 ", "ok"}, {"hint 1 i", "no"}, {"hint 1 h3", "ok"}, {"hint 2 h3", "no"}} {
		if x, told := impl.ServerDo(s, c[0]); told != c[1]+"\n" || serverEqual(x, s) != (c[1] == "no") {
			t.Errorf("%q: %q", c[0], told)
		}
	}
}

// Patterns of lines, by which doneByLook reads them.
var (
	lineForm   = regexp.MustCompile(`^[ -~]{0,400}$`)
	changeForm = regexp.MustCompile(`^(put|drop|hint)( .*)?$`)
	putForm    = regexp.MustCompile(`^put ([^ ]*) (.*)$`)
	dropForm   = regexp.MustCompile(`^drop (.*)$`)
	hintLine   = regexp.MustCompile(`^hint ([1-9][0-9]{0,8}) (.*)$`)
	beginForm  = regexp.MustCompile(`^begin (.*)$`)
	nearForm   = regexp.MustCompile(`^near (.{0,60})$`)
	plainAsk   = regexp.MustCompile(`^(find|rank)\?(.*)$`)
	fieldAsk   = regexp.MustCompile(`^(up|down|tags|stat) ([a-z0-9]+)\?(.*)$`)
	binsAsk    = regexp.MustCompile(`^bins ([a-z0-9]+) ([1-9][0-9]{0,8})\?(.*)$`)
	markAsk    = regexp.MustCompile(`^mark ([^ ?]*) ([a-z0-9]+)\?(.*)$`)
)

// doneByLook does a line on a server that is ok by patterns and by the functions of the other chapters: the server then, what is told, and whether it was kept.
func doneByLook(s impl.Server, line string) (impl.Server, string, bool) {
	if !lineForm.MatchString(line) {
		return s, "what\n", false
	}
	if changeForm.MatchString(line) {
		if len(s.Log) == 30 {
			return s, "full\n", false
		}
		made, ok := changedByLook(s, line)
		if !ok {
			return s, "no\n", false
		}
		made.Log = append(slices.Clone(s.Log), line)
		return made, "ok\n", true
	}
	if m := beginForm.FindStringSubmatch(line); m != nil {
		told := ""
		for _, h := range offeredByLook(s.Hints, m[1], 3) {
			told += h.Text + "\n"
		}
		return s, told, false
	}
	if m := nearForm.FindStringSubmatch(line); m != nil {
		return s, strings.Join(nearByLook(s.Index, m[1], 1), " ") + "\n", false
	}
	if told, ok := askedByLook(s.Index, line); ok {
		return s, told + "\n", false
	}
	return s, "what\n", false
}

func changedByLook(s impl.Server, line string) (impl.Server, bool) {
	ok := false
	if m := putForm.FindStringSubmatch(line); m != nil {
		text := m[1]
		if m[2] != "" {
			text += "\n" + strings.ReplaceAll(m[2], ";", "\n")
		}
		d, form := impl.DocGet(text)
		if !form {
			return s, false
		}
		s.Index, _, ok = impl.IndexPut(s.Index, d)
	}
	if m := dropForm.FindStringSubmatch(line); m != nil {
		s.Index, ok = impl.IndexDrop(s.Index, m[1])
	}
	if m := hintLine.FindStringSubmatch(line); m != nil {
		weight, _ := strconv.Atoi(m[1])
		s.Hints, ok = addedByLook(s.Hints, m[2], weight)
	}
	return s, ok
}

// kindOf is the kind of a field of an index, 0 if there is none.
func kindOf(x impl.Index, name string) int {
	for _, f := range x.Fields {
		if f.Name == name {
			return f.Kind
		}
	}
	return 0
}

func askedByLook(x impl.Index, line string) (string, bool) {
	fits := func(text string) (impl.Query, bool) {
		q, ok := impl.QueryGet(text)
		return q, ok && impl.QueryFits(x.Fields, q)
	}
	if m := plainAsk.FindStringSubmatch(line); m != nil {
		q, ok := fits(m[2])
		if m[1] == "rank" {
			return hitsText(impl.Rank(x, q)), ok
		}
		return strings.Join(impl.Keys(x, findByLook(x, q)), " "), ok
	}
	if m := fieldAsk.FindStringSubmatch(line); m != nil {
		q, ok := fits(m[3])
		want := impl.FieldNum
		if m[1] == "tags" {
			want = impl.FieldTag
		}
		if !ok || kindOf(x, m[2]) != want {
			return "", false
		}
		return fieldToldByLook(x, m[1], m[2], q), true
	}
	if m := binsAsk.FindStringSubmatch(line); m != nil {
		q, ok := fits(m[3])
		width, _ := strconv.Atoi(m[2])
		return binsText(impl.Bins(x, impl.Find(x, q), m[1], width)), ok && kindOf(x, m[1]) == impl.FieldNum
	}
	if m := markAsk.FindStringSubmatch(line); m != nil {
		q, ok := fits(m[3])
		told := "none"
		for _, r := range x.Rows {
			for _, c := range r.Doc.Cells {
				if r.Doc.Key == m[1] && c.Name == m[2] {
					told = markedByLook(c.Text, impl.QueryTerms(q))
				}
			}
		}
		return told, ok && kindOf(x, m[2]) == impl.FieldText
	}
	return "", false
}

func fieldToldByLook(x impl.Index, command string, field string, q impl.Query) string {
	switch command {
	case "up", "down":
		return hitsText(byNumberByLook(x, q, field, command == "down"))
	case "tags":
		return groupsText(impl.Groups(x, findByLook(x, q), field))
	}
	return strings.Trim(fmt.Sprint(impl.StatOf(x, findByLook(x, q), field)), "{}")
}

// line is a line of any command, most of them such as can be done.
func (c chance) line() string {
	key, field := c.oneOf("a", "b", "c", "d", "ok", "zz"), c.oneOf("price", "price", "price", "color", "color", "title", "body", "zz", "")
	text := impl.QueryPut(c.question(2))
	switch c.Intn(14) {
	case 0, 1, 2:
		var cells []string
		for _, cell := range c.doc("k").Cells {
			cells = append(cells, cell.Name+"="+cell.Text)
		}
		return "put " + key + " " + strings.Join(cells, ";")
	case 3:
		return "drop " + key
	case 4, 5:
		return "hint " + c.oneOf("1", "2", "2", "3", "999999990", "0", "07") + " " + strings.ToLower(c.words(1, 3))
	case 6:
		return "begin " + c.oneOf("", "r", "red", "red ", "the", "a", "x", "ok")
	case 7:
		return "near " + c.word()
	case 8:
		return "mark " + key + " " + c.oneOf("title", "body", field) + "?" + text
	case 9:
		return "bins " + field + " " + c.oneOf("1", "2", "5", "100", "0", "05") + "?" + text
	case 10, 11:
		return c.oneOf("up", "down", "tags", "stat") + " " + field + "?" + text
	}
	return c.oneOf("find", "rank", "what") + "?" + text
}

// torn is a line, or one that is a byte or two from it.
func (c chance) torn(line string) string {
	for range max(0, c.Intn(4)-1) {
		at := c.Intn(len(line) + 1)
		end := min(len(line), at+c.Intn(2))
		line = line[:at] + c.oneOf("", " ", "=", ";", "?", "0", "a", "A", "\x1f", "\x7f", "*") + line[end:]
	}
	return line
}

func TestP57P87WhateverIsTold(t *testing.T) {
	told, kept := map[string]int{}, 0
	for seed := range int64(45) {
		c := chanceOf(5700 + seed)
		s := serverOf(t)
		for range 170 {
			line := c.torn(c.line())
			want, tells, changed := doneByLook(s, line)
			got, answer := impl.ServerDo(s, line)
			if answer != tells || !serverEqual(got, want) {
				t.Fatalf("%q behind %q: %q, not %q", line, s.Log, answer, tells)
			}
			if !impl.ServerOk(got) || changed != (len(got.Log) > len(s.Log)) {
				t.Fatalf("%q behind %q: %v", line, s.Log, got)
			}
			if changed {
				kept++
			}
			told[answer]++
			s = got
		}
	}
	if kept < 600 || told["no\n"] < 300 || told["full\n"] < 30 || told["what\n"] < 300 || told["none\n"] < 100 || len(told) < 300 {
		t.Errorf("%d kept, %d sorts of answers; no %d, full %d, what %d, none %d", kept, len(told), told["no\n"], told["full\n"], told["what\n"], told["none\n"])
	}
}

func TestP87WhatTheIndexTells(t *testing.T) {
	for _, s := range sampleServers(t) {
		c := chanceOf(87)
		for range 100 {
			q := c.question(4)
			if len(impl.QueryPut(q)) > impl.QueryMax {
				continue
			}
			want := strings.Join(impl.Keys(s.Index, impl.Find(s.Index, q)), " ") + "\n"
			if x, told := impl.ServerDo(s, "find?"+impl.QueryPut(q)); told != want || !serverEqual(x, s) {
				t.Errorf("%s: %q, not %q", impl.QueryPut(q), told, want)
			}
		}
	}
}

func TestP86WhatWasPutInAndTakenOut(t *testing.T) {
	for _, s := range sampleServers(t) {
		if len(s.Log)+2 > impl.LogMax || len(s.Index.Rows) == impl.DocMax {
			continue
		}
		for _, line := range []string{"put new ", "put new title=red pie", "put new body=zz;color=z;price=1;title=zz"} {
			x, first := impl.ServerDo(s, line)
			y, second := impl.ServerDo(x, "drop new")
			if first != "ok\n" || second != "ok\n" || !contentEqual(y.Index, s.Index) || y.Index.Next != s.Index.Next+1 || !slices.Equal(y.Hints, s.Hints) || !slices.Equal(y.Log, append(slices.Clone(s.Log), line, "drop new")) {
				t.Errorf("%q: %v, not %v", line, y, s)
			}
		}
	}
}

func TestP88WhoOnlyLooksChangesNothing(t *testing.T) {
	wrong := []string{"what", "", "find", "find?the", "up title?*", "near " + strings.Repeat("x", 61), "begin", "put\n", strings.Repeat("x", 401), "mark a price?*"}
	looks := []string{"find?*", "rank?red", "begin ", "near aple", "up price?*", "tags color?*", "stat price?*", "bins price 2?*", "mark a title?red", "drop zz", "put A ", "hint 0 x"}
	lines := exampleLines()[:20]
	_, all := impl.ServerPlay(sampleFields(), lines)
	for at := range len(lines) + 1 {
		_, first := impl.ServerPlay(sampleFields(), lines[:at])
		for _, line := range append(wrong, looks...) {
			_, told := impl.ServerPlay(sampleFields(), slices.Insert(slices.Clone(lines), at, line))
			rest, whole := strings.CutSuffix(told, all[len(first):])
			if !whole || !strings.HasPrefix(rest, first) || slices.Contains(wrong, line) && rest != first+"what\n" {
				t.Errorf("%q at %d: %q", line, at, told)
			}
		}
	}
}

// linesThatLook are told `ok`, and yet change nothing.
func linesThatLook() []string {
	return []string{"begin ok", "find?@price:77..77", "near okk", "mark ok title?*"}
}

// wrongServers is servers that are not ok, by what is wrong.
func wrongServers(t testing.TB) map[string]impl.Server {
	list := map[string]impl.Server{"nothing": {}}
	for what, x := range wrongIndexes(t) {
		list["index: "+what] = impl.Server{Index: x}
	}
	list["an index of nowhere"] = impl.Server{Index: mixedIndex(t)}
	for i, hints := range wrongHints() {
		s := serverOf(t)
		s.Hints = hints
		list["hints "+strconv.Itoa(i)] = s
	}
	lines := sampleLines()
	alter := func(what string, how func(s *impl.Server)) {
		s := roomy(serverOf(t, lines...))
		how(&s)
		list[what] = s
	}
	alter("a hint of nowhere", func(s *impl.Server) { s.Hints = []impl.Hint{{Text: "red", Weight: 1}} })
	alter("another weight", func(s *impl.Server) { s.Hints[0].Weight++ })
	alter("a hint less", func(s *impl.Server) { s.Hints = s.Hints[1:] })
	alter("no hints", func(s *impl.Server) { s.Hints = nil })
	alter("another next number", func(s *impl.Server) { s.Index.Next++ })
	alter("another document", func(s *impl.Server) { s.Index, _, _ = impl.IndexPut(s.Index, docOf(t, "a; title=x")) })
	alter("a document less", func(s *impl.Server) { s.Index, _ = impl.IndexDrop(s.Index, "a") })
	alter("a field less", func(s *impl.Server) { s.Index.Fields = s.Index.Fields[:3] })
	alter("a field of another kind", func(s *impl.Server) { s.Index.Fields[3].Kind = impl.FieldNum })
	alter("another Id", func(s *impl.Server) { s.Index.Rows[0].Id-- })
	alter("a word less", func(s *impl.Server) { s.Index.Entries = s.Index.Entries[1:] })
	alter("a cell that has no words less", func(s *impl.Server) { s.Index.Rows[2].Doc.Cells = s.Index.Rows[2].Doc.Cells[:1] })
	alter("another line", func(s *impl.Server) { s.Log[2] = "put b body=an apple pie;color=blue,red;title=pie" })
	alter("a line that can be done, and is another one", func(s *impl.Server) { s.Log[11] = "hint 8 red pie" })
	alter("no log", func(s *impl.Server) { s.Log = nil })
	alter("another order", func(s *impl.Server) { s.Log[0], s.Log[2] = s.Log[2], s.Log[0] })
	alter("a line with a newline", func(s *impl.Server) { s.Log[0] += "\n" })
	alter("too many lines", func(s *impl.Server) {
		for range impl.LogMax + 1 - len(s.Log) {
			s.Log = append(s.Log, "put a price=7;title=")
		}
	})
	for i := range lines {
		if lines[i] == "drop c" {
			// It comes anew behind that all the same.
			continue
		}
		alter("without line "+strconv.Itoa(i), func(s *impl.Server) { s.Log = slices.Delete(s.Log, i, i+1) })
		alter("twice line "+strconv.Itoa(i), func(s *impl.Server) { s.Log = slices.Insert(s.Log, i, s.Log[i]) })
	}
	for at := range len(lines) + 1 {
		for _, line := range append([]string{"", "what", "find?*", "drop zz", "put A ", "begin red", "hint 0 x"}, linesThatLook()...) {
			alter(fmt.Sprintf("%q at %d", line, at), func(s *impl.Server) { s.Log = slices.Insert(s.Log, at, line) })
		}
	}
	return list
}

func TestP57ServersThatAreNotOk(t *testing.T) {
	for _, s := range sampleServers(t) {
		if !impl.ServerOk(s) || !impl.ServerOk(roomy(s)) {
			t.Errorf("%v is not ok", s)
		}
	}
	for what, s := range wrongServers(t) {
		if impl.ServerOk(s) {
			t.Errorf("%s: ok", what)
		}
		for _, line := range []string{"put a ", "find?*", "what", ""} {
			if x, told := impl.ServerDo(s, line); told != "" || !serverEqual(x, impl.Server{}) {
				t.Errorf("%s: %q %v", what, told, x)
			}
		}
		if got := impl.ServerText(s); got != "" {
			t.Errorf("%s: %q", what, got)
		}
	}
}

// What is told as `ok` by a look is no change.
func TestP57P59ALookThatTellsOk(t *testing.T) {
	lines := []string{"put ok price=77;title=ok", "hint 3 ok"}
	s := serverOf(t, lines...)
	for _, line := range linesThatLook() {
		if x, told := impl.ServerDo(s, line); told != "ok\n" || !serverEqual(x, s) {
			t.Errorf("%q: %q", line, told)
		}
		x := s
		x.Log = append(slices.Clone(s.Log), line)
		if impl.ServerOk(x) {
			t.Errorf("%q is ok in a log", line)
		}
		if _, size, ok := impl.ServerRise(sampleFields(), impl.ServerText(s)+logText(line)); ok || size != 0 {
			t.Errorf("%q rises", line)
		}
	}
}

// Another log is ok, where it leads to the same, and so are other fields, if it can be done by them.
func TestP57ServersThatAreJustOk(t *testing.T) {
	a, b := serverOf(t, "hint 1 red", "hint 2 pie"), serverOf(t, "hint 2 pie", "hint 1 red")
	a.Log, b.Log = b.Log, a.Log
	if !impl.ServerOk(a) || !impl.ServerOk(b) {
		t.Error("another order")
	}
	s := roomy(serverOf(t, sampleLines()...))
	s.Log = slices.Delete(s.Log, 8, 9)
	if !impl.ServerOk(s) {
		t.Error("without a line that does not matter")
	}
	s = roomy(serverOf(t, sampleLines()...))
	s.Index.Fields[0].Weight++
	s.Index.Fields[2], s.Index.Fields[3] = s.Index.Fields[3], s.Index.Fields[2]
	if !impl.ServerOk(s) {
		t.Error("other fields")
	}
	s = serverOf(t)
	s.Hints, s.Log, s.Index.Rows, s.Index.Entries = []impl.Hint{}, []string{}, []impl.Row{}, []impl.Entry{}
	if !impl.ServerOk(s) {
		t.Error("empty lists")
	}
}

// logText writes lines as a log has them.
func logText(lines ...string) string {
	text := ""
	for _, line := range lines {
		text += fmt.Sprintf("%d %s\n", len(line), line)
	}
	return text
}

func TestP58ALogIsWritten(t *testing.T) {
	for _, s := range sampleServers(t) {
		if got := impl.ServerText(s); got != logText(s.Log...) {
			t.Errorf("%q", got)
		}
	}
	if got := impl.ServerText(serverOf(t, "put a title=red", "hint 3 red", "drop a")); got != "15 put a title=red\n10 hint 3 red\n6 drop a\n" {
		t.Errorf("%q", got)
	}
}

func TestP58AServerIsUpAgain(t *testing.T) {
	for _, s := range sampleServers(t) {
		text := impl.ServerText(s)
		var ups []impl.Server
		for many := range len(s.Log) + 1 {
			ups = append(ups, serverOf(t, s.Log[:many]...))
		}
		many := 0
		for cut := range len(text) + 1 {
			if many < len(s.Log) && cut == len(logText(s.Log[:many+1]...)) {
				many++
			}
			up, size, ok := impl.ServerRise(sampleFields(), text[:cut])
			if !ok || size != len(logText(s.Log[:many]...)) || !serverEqual(up, ups[many]) {
				t.Fatalf("cut at %d: %d %v", cut, size, up.Log)
			}
		}
		if many != len(s.Log) {
			t.Fatalf("%d lines", many)
		}
		if up, size, ok := impl.ServerRise(sampleFields(), text); !ok || size != len(text) || !serverEqual(up, s) {
			t.Errorf("%q: %v", text, up)
		}
	}
}

func TestP59LogsOfATable(t *testing.T) {
	put, hint := "15 put a title=red\n", "10 hint 3 red\n"
	var full, over []string
	for i := range impl.LogMax {
		full = append(full, "hint "+strconv.Itoa(i+1)+" red")
	}
	over = append(slices.Clone(full), "hint 1 red")
	for _, c := range []struct {
		text string
		many int
		size int
		ok   bool
	}{
		{"", 0, 0, true}, {put, 1, 19, true}, {put + hint, 2, 33, true}, {logText(full...), impl.LogMax, len(logText(full...)), true}, {logText(over...), 0, 0, false}, {logText(full...) + "10 hint 1 red", impl.LogMax, len(logText(full...)), true},
		// What is behind is no line.
		{put + "\n", 1, 19, true}, {put + " ", 1, 19, true}, {put + "x", 1, 19, true}, {put + "put b ", 1, 19, true}, {put + "6", 1, 19, true}, {put + "6 ", 1, 19, true}, {put + "6 drop a", 1, 19, true}, {put + "\x00\xff", 1, 19, true}, {put + "x\n" + hint, 1, 19, true}, {put + "\n" + hint, 1, 19, true}, {" " + put, 0, 0, true}, {"\n" + put, 0, 0, true},
		// Sizes that are wrong.
		{"14 put a title=red\n", 0, 0, true}, {"16 put a title=red\n", 0, 0, true}, {"16 put a title=red\n" + hint, 0, 0, true}, {"0 put a title=red\n", 0, 0, true}, {"015 put a title=red\n", 0, 0, true}, {"0015 put a title=red\n", 0, 0, true}, {"+15 put a title=red\n", 0, 0, true}, {"-15 put a title=red\n", 0, 0, true}, {"15  put a title=red\n", 0, 0, true}, {" put a title=red\n", 0, 0, true}, {"x put a title=red\n", 0, 0, true}, {"1x put a title=red\n", 0, 0, true}, {"15put a title=red\n", 0, 0, true}, {"15\nput a title=red\n", 0, 0, true}, {"1e1 hint 3 red\n", 0, 0, true}, {"0xa hint 3 red\n", 0, 0, true}, {"1_0 hint 3 red\n", 0, 0, true}, {"-0 \n", 0, 0, true}, {"00 \n", 0, 0, true}, {"-1 \n", 0, 0, true}, {"999999999 put a \n", 0, 0, true}, {"99999999999999999999999 put a \n", 0, 0, true}, {"9223372036854775807 put a \n", 0, 0, true}, {"9223372036854775808 \n", 0, 0, true}, {"18446744073709551615 \n", 0, 0, true}, {"18446744073709551616 \n", 0, 0, true}, {put + "010 hint 3 red\n", 1, 19, true}, {put + "9 hint 3 red\n", 1, 19, true}, {put + "11 hint 3 red\n", 1, 19, true},
		// Other ends of a line.
		{"15 put a title=red\r\n", 0, 0, true}, {"15 put a title=red ", 0, 0, true}, {"15 put a title=red", 0, 0, true}, {"15 put a title=redx", 0, 0, true}, {"15 put a title=red;\n", 0, 0, true},
		// Lines that are whole, and no change that can be done.
		{"6 drop a\n", 0, 0, false}, {put + "6 drop z\n", 0, 0, false}, {put + "6 drop z\n" + hint, 0, 0, false}, {put + "4 what\n", 0, 0, false}, {put + "6 find?*\n", 0, 0, false}, {put + "0 \n", 0, 0, false}, {"0 \n", 0, 0, false}, {put + "1 \n\n", 0, 0, false}, {"5 put a\n", 0, 0, false}, {"6 put a\n\n", 0, 0, false}, {"16 put a title=red\n\n", 0, 0, false}, {"15 put a title=re\x7f\n", 0, 0, false}, {"8 begin re\n", 0, 0, false}, {"401 " + strings.Repeat("x", 401) + "\n", 0, 0, false}, {"400 " + strings.Repeat("x", 400) + "\n", 0, 0, false}, {"1000 " + strings.Repeat("x", 1000) + "\n", 0, 0, false}, {put + "12 put b price=\n", 0, 0, false}, {"14 put a title=re\n" + "6 drop b\n", 0, 0, false},
		{"6 put a \n", 1, 9, true}, {"14 put a title=re\n", 1, 18, true}, {put + "6 drop a\n", 2, 28, true}, {put + put, 2, 38, true},
	} {
		s, size, ok := impl.ServerRise(sampleFields(), c.text)
		if ok != c.ok || size != c.size || len(s.Log) != c.many || ok && !impl.ServerOk(s) || !ok && !serverEqual(s, impl.Server{}) {
			t.Errorf("%q: %d %v %q", c.text, size, ok, s.Log)
		}
	}
	for _, fields := range append(wrongFields(), nil) {
		for _, text := range []string{"", put, "x"} {
			if s, size, ok := impl.ServerRise(fields, text); ok || size != 0 || !serverEqual(s, impl.Server{}) {
				t.Errorf("%v: %v", fields, s)
			}
		}
	}
	// A line that can be done by other fields alone.
	if s, size, ok := impl.ServerRise([]impl.Field{{Name: "zz", Kind: impl.FieldNum}}, put); ok || size != 0 || !serverEqual(s, impl.Server{}) {
		t.Error(s)
	}
}

var wholeForm = regexp.MustCompile(`^(0|[1-9][0-9]{0,8}) `)

// risenByLook reads a log as a text by a pattern.
func risenByLook(fields []impl.Field, text string) (impl.Server, int, bool) {
	s, _ := impl.ServerNew(fields)
	at := 0
	for {
		m := wholeForm.FindStringSubmatch(text[at:])
		if m == nil {
			return s, at, true
		}
		size, _ := strconv.Atoi(m[1])
		from := at + len(m[0])
		if from+size >= len(text) || text[from+size] != '\n' {
			return s, at, true
		}
		made, _, kept := doneByLook(s, text[from:from+size])
		if !kept {
			return impl.Server{}, 0, false
		}
		s, at = made, from+size+1
	}
}

func TestP59WhateverALogIs(t *testing.T) {
	c := chanceOf(59)
	right := impl.ServerText(serverOf(t, sampleLines()[:5]...))
	texts := nearTexts("6 put a \n6 drop a\n")
	for range 1500 {
		texts = append(texts, c.torn(right), c.torn(c.torn(logText("put a price=7", c.line(), c.torn(c.line())))))
	}
	up, down := 0, 0
	for _, text := range texts {
		s, size, ok := impl.ServerRise(sampleFields(), text)
		want, took, can := risenByLook(sampleFields(), text)
		if ok != can || size != took || !serverEqual(s, want) {
			t.Errorf("%q: %d %v %q, not %d %v %q", text, size, ok, s.Log, took, can, want.Log)
		}
		if !ok {
			down++
			continue
		}
		up++
		again, whole, fine := impl.ServerRise(sampleFields(), text[:size])
		if !impl.ServerOk(s) || impl.ServerText(s) != text[:size] || !fine || whole != size || !serverEqual(again, s) {
			t.Errorf("%q: %q again", text, again.Log)
		}
	}
	if up < 500 || down < 500 {
		t.Errorf("%d up, %d not", up, down)
	}
}

func TestP60LinesOneBehindTheOther(t *testing.T) {
	for seed := range int64(20) {
		c := chanceOf(6000 + seed)
		var lines []string
		for range c.Intn(41) {
			lines = append(lines, c.torn(c.line()))
		}
		all, told := impl.ServerPlay(sampleFields(), nil)
		if fresh, _ := impl.ServerNew(sampleFields()); told != "" || !serverEqual(all, fresh) {
			t.Errorf("no lines: %q %v", told, all)
		}
		for i, line := range lines {
			x, more := impl.ServerDo(all, line)
			y, whole := impl.ServerPlay(sampleFields(), lines[:i+1])
			if !serverEqual(x, y) || whole != told+more || !impl.ServerOk(y) {
				t.Fatalf("%q: %q, not %q", lines[:i+1], whole, told+more)
			}
			all, told = y, whole
		}
	}
}

func TestP60HowManyLines(t *testing.T) {
	fresh, _ := impl.ServerNew(sampleFields())
	for _, many := range []int{0, 1, 30, 31, 39, 40, 41, 42, 1000} {
		var lines []string
		for i := range many {
			lines = append(lines, "put k"+strconv.Itoa(i%3)+" ")
		}
		s, told := impl.ServerPlay(sampleFields(), lines)
		want := strings.Repeat("ok\n", min(many, 30)) + strings.Repeat("full\n", max(0, many-30))
		if many > 40 {
			want = ""
		}
		if told != want || many <= 40 && len(s.Log) != min(many, 30) || many > 40 && !serverEqual(s, fresh) || !impl.ServerOk(s) {
			t.Errorf("%d lines: %q %v", many, told, s)
		}
		for _, fields := range append(wrongFields(), nil) {
			if s, told := impl.ServerPlay(fields, lines); told != "" || !serverEqual(s, impl.Server{}) {
				t.Errorf("%v: %q %v", fields, told, s)
			}
		}
	}
}

func TestP61WhatWasToldIsToldFirst(t *testing.T) {
	_, example := impl.ServerPlay(sampleFields(), exampleLines())
	if got := impl.Session(exampleLines()); got != example {
		t.Errorf("%q", got)
	}
	for _, lines := range [][]string{nil, {}} {
		if got := impl.Session(lines); got != "" {
			t.Errorf("%q", got)
		}
	}
	if got := impl.Session([]string{"what", "", "drop a", "find?*", "begin x"}); got != "what\nwhat\nno\n\n" {
		t.Errorf("%q", got)
	}
	for seed := range int64(10) {
		c := chanceOf(6100 + seed)
		var lines []string
		for range 45 {
			lines = append(lines, c.torn(c.line()))
		}
		last := ""
		for many := range len(lines) + 1 {
			_, want := impl.ServerPlay(sampleFields(), lines[:min(many, 40)])
			got := impl.Session(lines[:many])
			if got != want || !strings.HasPrefix(got, last) {
				t.Errorf("%q: %q, not %q", lines[:many], got, want)
			}
			last = got
		}
	}
	var many []string
	for i := range 50 {
		many = append(many, "put k title=w"+strconv.Itoa(i), "find?w"+strconv.Itoa(i))
	}
	if got := impl.Session(many); got != strings.Repeat("ok\nk\n", 20) {
		t.Errorf("%q", got)
	}
}
