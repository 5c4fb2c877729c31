package tests

import (
	"fmt"
	"math"
	"slices"
	"sort"
	"strconv"
	"strings"
	"testing"

	"loop.example/spandrel/impl"
)

// scoreByLook is how good a document is, by a look at each place of each of its texts.
func scoreByLook(x impl.Index, q impl.Query, id int) int {
	sum := 0
	switch q.Kind {
	case impl.QueryAnd, impl.QueryOr:
		for _, p := range q.Parts {
			sum += scoreByLook(x, p, id)
		}
		return sum
	case impl.QueryWord, impl.QueryPhrase, impl.QueryBegin:
	default:
		return 0
	}
	for _, r := range x.Rows {
		for _, f := range x.Fields {
			if r.Id == id && (q.Field == "" || q.Field == f.Name) {
				sum += f.Weight * oftenByLook(termsByLook(x.Fields, r.Doc, f.Name), q)
			}
		}
	}
	if found := len(findByLook(x, q)); found > 0 {
		return sum * int(math.Floor(100*float64(len(x.Rows))/float64(found)))
	}
	return 0
}

// oftenByLook is at how many places of a text what is looked for begins.
func oftenByLook(terms []string, q impl.Query) int {
	many := 0
	for at := range terms {
		from := barredTerms(terms[at:])
		if q.Kind == impl.QueryBegin && strings.HasPrefix(from, "|"+q.Text) || q.Kind != impl.QueryBegin && strings.HasPrefix(from, barredTerms(impl.Terms(q.Text))) {
			many++
		}
	}
	return many
}

// idsOf is Ids of hits, ascending.
func idsOf(hits []impl.Hit) []int {
	var ids []int
	for _, h := range hits {
		ids = append(ids, h.Id)
	}
	slices.Sort(ids)
	return ids
}

func queryOf(t testing.TB, text string) impl.Query {
	t.Helper()
	q, ok := impl.QueryGet(text)
	if !ok {
		t.Fatalf("no question: %q", text)
	}
	return q
}

func allOf() impl.Query {
	return impl.Query{Kind: impl.QueryAll}
}

// hitsText is hits as `KEY=SCORE` with blanks between.
func hitsText(hits []impl.Hit) string {
	var list []string
	for _, h := range hits {
		list = append(list, h.Key+"="+strconv.Itoa(h.Score))
	}
	return strings.Join(list, " ")
}

// rankedAsked is sampleAsked, and indexes with fields of greater weights, asked for words of all of them.
func rankedAsked(t testing.TB, many int) []asked {
	fields := []impl.Field{{Name: "z", Kind: impl.FieldText, Weight: 9}, {Name: "ab", Kind: impl.FieldText, Weight: 2}, {Name: "n", Kind: impl.FieldNum}, {Name: "a", Kind: impl.FieldText, Weight: 5}}
	list := sampleAsked(t, many)
	for seed := range int64(6) {
		c := chanceOf(700 + seed)
		var docs []impl.Doc
		for i := range 3 + int(seed) {
			cells := []impl.Cell{{Name: "a", Text: c.text()}, {Name: "ab", Text: c.text()}, {Name: "n", Text: strconv.Itoa(c.number())}, {Name: "z", Text: c.text()}}
			docs = append(docs, impl.Doc{Key: "k" + strconv.Itoa(99-i), Cells: cells})
		}
		a := asked{x: indexWith(t, fields, docs...)}
		for range many {
			q := c.leaf()
			if q.Field != "" && q.Kind <= impl.QueryBegin {
				q.Field = c.oneOf("z", "ab", "a")
			}
			if impl.QueryFits(fields, q) {
				a.qs = append(a.qs, q, someOf(q, wordOf("z", "red"), notOf(q)), bothOf(beginOf("ab", "r"), q))
			}
		}
		list = append(list, a)
	}
	return list
}

func TestP39ScoresOfATable(t *testing.T) {
	x := indexWith(t, sampleFields(), sampleDocs(t)...)
	for _, c := range [][2]string{
		{"red", "a=798 d=798 c=532"}, {"Reds", "a=798 d=798 c=532"}, {"title:red", "a=1200 d=1200"}, {"body:red", "c=1600"}, {"apple", "a=798 h=798 b=266"}, {"title:apple", "a=1200 h=1200"}, {"body:apple", "b=800"},
		{"pie", "b=1600 h=1200"}, {"title:pie", "b=1200 h=1200"}, {"body:pie", "b=800"}, {"green", ""}, {"blue", ""}, {"zz", ""},
		{"b", "g=24000"}, {`"b b"`, "g=23200"}, {`"b b b"`, "g=22400"}, {`"b b b b"`, "g=21600"}, {"b*", "g=24000"},
		{`"tree of red"`, "c=800"}, {`"of red"`, "d=1200 c=800"}, {`"the red"`, "d=1200 c=800"}, {`body:"a red"`, "c=1600"}, {`"of the"`, "d=800"}, {`"red tree"`, "c=800"}, {`"red apple"`, "a=2400"}, {`"verylongwords verylongwords"`, "h=800"},
		{"verylongword*", "h=1600"}, {"a*", "a=798 h=798 b=266"}, {"p*", "b=1600 h=1200"}, {"r*", "a=798 d=798 c=532"}, {"t*", "c=800"}, {"the*", ""}, {"title:a*", "a=1200 h=1200"}, {"apples*", ""},
		{"*", "a=0 b=0 c=0 d=0 e=0 f=0 g=0 h=0"}, {"-red", "b=0 e=0 f=0 g=0 h=0"}, {"-*", ""}, {"--red", "a=0 c=0 d=0"}, {"@price:-9..9", "a=0 c=0"}, {"@color:{red}", "a=0 b=0"},
		{"(apple | pie)", "h=1998 b=1866 a=798"}, {"(apple pie)", "h=1998 b=1866"}, {"(red -apple)", "d=798 c=532"}, {"(red | @color:{red})", "a=798 d=798 c=532 b=0"}, {"(red @price:-9..9)", "a=798 c=532"}, {"(* red)", "a=798 d=798 c=532"}, {"(* | red)", "a=798 d=798 c=532 b=0 e=0 f=0 g=0 h=0"},
		{"((red | tree) | (apple pie))", "h=1998 b=1866 a=1596 c=1332 d=798"}, {"((red | tree) (apple | pie))", "a=1596"}, {"(red | red)", "a=1596 d=1596 c=1064"}, {"(red red red red)", "a=3192 d=3192 c=2128"}, {"(-(red | apple) | tree)", "c=800 e=0 f=0 g=0"}, {"-(red apple)", "b=0 c=0 d=0 e=0 f=0 g=0 h=0"}, {"(red | zz)", "a=798 d=798 c=532"}, {"(red zz)", ""},
	} {
		if got := hitsText(impl.Rank(x, queryOf(t, c[0]))); got != c[1] {
			t.Errorf("%s: %s", c[0], got)
		}
	}
	for _, c := range []struct {
		text string
		id   int
		want int
	}{
		{"red", 0, 798}, {"red", 2, 532}, {"red", 1, 0}, {"red", 4, 0}, {"red", -1, 0}, {"red", 8, 0}, {"red", 1 << 40, 0}, {"red", math.MinInt, 0}, {"zz", 0, 0}, {"zz", 9, 0}, {"*", 0, 0}, {"-zz", 0, 0},
		{"(red apple)", 2, 532}, {"(red apple)", 1, 266}, {"(red zz)", 0, 798}, {"(red -red)", 0, 798}, {"(-red | -zz)", 0, 0}, {"(apple | pie)", 9, 0},
	} {
		if got := impl.Score(x, queryOf(t, c.text), c.id); got != c.want {
			t.Errorf("%s of %d: %d", c.text, c.id, got)
		}
	}
}

func TestP39HowGoodADocumentIs(t *testing.T) {
	above := 0
	for _, a := range rankedAsked(t, 60) {
		ids := []int{-1, a.x.Next, a.x.Next + 7}
		for _, r := range a.x.Rows {
			ids = append(ids, r.Id)
		}
		for _, q := range a.qs {
			found := impl.Find(a.x, q)
			for _, id := range ids {
				got := impl.Score(a.x, q, id)
				if want := scoreByLook(a.x, q, id); got != want {
					t.Errorf("%s of %d: %d, not %d", impl.QueryPut(q), id, got, want)
				}
				ofWords := q.Kind == impl.QueryWord || q.Kind == impl.QueryPhrase || q.Kind == impl.QueryBegin
				if ofWords && got > 0 != slices.Contains(found, id) || got < 0 {
					t.Errorf("%s of %d: %d", impl.QueryPut(q), id, got)
				}
				sum := 0
				for _, p := range q.Parts {
					sum += impl.Score(a.x, p, id)
				}
				if ofParts := q.Kind == impl.QueryAnd || q.Kind == impl.QueryOr; ofParts && got != sum || !ofParts && !ofWords && got != 0 {
					t.Errorf("%s of %d: %d, parts %d", impl.QueryPut(q), id, got, sum)
				}
				if got > 0 {
					above++
				}
			}
		}
	}
	if above < 1000 {
		t.Errorf("only %d were any good", above)
	}
}

// How much a word counts, by how many documents there are, and how many have it: 100 times the first through the second, what is left over going.
func TestP39EachNumberOfDocuments(t *testing.T) {
	for all := 1; all <= impl.DocMax; all++ {
		for with := 0; with <= all; with++ {
			x := indexWith(t, sampleFields())
			for i := range all {
				text := "pie"
				if i < with {
					text = "red"
				}
				x, _, _ = impl.IndexPut(x, impl.Doc{Key: "k" + strconv.Itoa(i), Cells: []impl.Cell{{Name: "body", Text: text}}})
			}
			want := 0
			for with > 0 && (want+1)*with <= 100*all {
				want++
			}
			if got := impl.Score(x, wordOf("", "red"), 0); got != want {
				t.Errorf("%d of %d: %d", with, all, got)
			}
		}
	}
}

func TestP38AllThatAreFoundAreRanked(t *testing.T) {
	for _, a := range rankedAsked(t, 150) {
		for _, q := range a.qs {
			hits := impl.Rank(a.x, q)
			if !slices.Equal(idsOf(hits), findByLook(a.x, q)) {
				t.Errorf("%s: %v", impl.QueryPut(q), hits)
			}
			for i, h := range hits {
				if h.Score != scoreByLook(a.x, q, h.Id) || h.Score != impl.Score(a.x, q, h.Id) || !slices.Equal(impl.Keys(a.x, []int{h.Id}), []string{h.Key}) {
					t.Errorf("%s: %v", impl.QueryPut(q), h)
				}
				if i > 0 && (hits[i-1].Score < h.Score || hits[i-1].Score == h.Score && hits[i-1].Key >= h.Key) {
					t.Errorf("%s: %v", impl.QueryPut(q), hits)
				}
			}
		}
	}
}

// orders is all orders of numbers from 0 on.
func orders(many int) [][]int {
	list := [][]int{nil}
	for n := range many {
		var longer [][]int
		for _, o := range list {
			for at := range len(o) + 1 {
				longer = append(longer, slices.Insert(slices.Clone(o), at, n))
			}
		}
		list = longer
	}
	return list
}

func TestP38P40WhateverOrderTheyCameIn(t *testing.T) {
	docs := []impl.Doc{
		docOf(t, "a; body=red; price=2"), docOf(t, "a0; body=red red; price=-1"), docOf(t, "aa; price=0; title=red"), docOf(t, "b; body=red"), docOf(t, "b1; body=red red"), docOf(t, "ba; body=red; price=2"),
	}
	for _, o := range orders(len(docs)) {
		x := indexWith(t, sampleFields())
		for _, at := range o {
			x, _, _ = impl.IndexPut(x, docs[at])
		}
		for _, c := range []struct {
			hits []impl.Hit
			want string
		}{
			{impl.Rank(x, allOf()), "a=0 a0=0 aa=0 b=0 b1=0 ba=0"},
			{impl.Rank(x, wordOf("", "red")), "aa=300 a0=200 b1=200 a=100 b=100 ba=100"},
			{impl.RankBy(x, allOf(), "price", false), "a0=-1 aa=0 a=2 ba=2 b=0 b1=0"},
			{impl.RankBy(x, allOf(), "price", true), "a=2 ba=2 aa=0 a0=-1 b=0 b1=0"},
		} {
			if got := hitsText(c.hits); got != c.want {
				t.Fatalf("%v: %s", o, got)
			}
			for _, h := range c.hits {
				if docs[o[h.Id]].Key != h.Key {
					t.Fatalf("%v: %v", o, h)
				}
			}
		}
	}
}

func TestP40EachNumberOfHits(t *testing.T) {
	c := chanceOf(40)
	for range 400 {
		x := indexWith(t, sampleFields())
		var up, down []string
		numbers := c.Perm(impl.DocMax)[:c.Intn(impl.DocMax+1)]
		for _, n := range numbers {
			key := "k" + strconv.Itoa(c.Intn(10)) + strconv.Itoa(n)
			x, _, _ = impl.IndexPut(x, impl.Doc{Key: key, Cells: []impl.Cell{{Name: "price", Text: strconv.Itoa(n - 4)}}})
			up = append(up, strconv.Itoa(n)+" "+key+"="+strconv.Itoa(n-4))
		}
		sort.Strings(up)
		for i, s := range up {
			up[i] = s[2:]
			down = append([]string{s[2:]}, down...)
		}
		if got := hitsText(impl.RankBy(x, allOf(), "price", false)); got != strings.Join(up, " ") {
			t.Errorf("%v: %s", numbers, got)
		}
		if got := hitsText(impl.RankBy(x, allOf(), "price", true)); got != strings.Join(down, " ") {
			t.Errorf("%v down: %s", numbers, got)
		}
	}
}

func TestP40ByNumbers(t *testing.T) {
	x := indexWith(t, sampleFields(), sampleDocs(t)...)
	for _, c := range []struct{ text, up, down string }{
		{"*", "g=-999999999 c=-3 a=5 f=999999999 b=0 d=0 e=0 h=0", "f=999999999 a=5 c=-3 g=-999999999 b=0 d=0 e=0 h=0"},
		{"red", "c=-3 a=5 d=0", "a=5 c=-3 d=0"}, {"pie", "b=0 h=0", "b=0 h=0"}, {"zz", "", ""}, {"-red", "g=-999999999 f=999999999 b=0 e=0 h=0", "f=999999999 g=-999999999 b=0 e=0 h=0"}, {"@price:5..5", "a=5", "a=5"},
	} {
		q := queryOf(t, c.text)
		if up, down := hitsText(impl.RankBy(x, q, "price", false)), hitsText(impl.RankBy(x, q, "price", true)); up != c.up || down != c.down {
			t.Errorf("%s: %s, %s", c.text, up, down)
		}
	}
}

func TestP40P78ByNumbersBothWays(t *testing.T) {
	for _, a := range rankedAsked(t, 100) {
		field := "price"
		if a.x.Fields[0].Name == "z" {
			field = "n"
		}
		for _, q := range a.qs {
			up, down := impl.RankBy(a.x, q, field, false), impl.RankBy(a.x, q, field, true)
			for i, hits := range [][]impl.Hit{up, down} {
				if !slices.Equal(idsOf(hits), impl.Find(a.x, q)) || !slices.Equal(hits, byNumberByLook(a.x, q, field, i == 1)) {
					t.Errorf("%s: %v", impl.QueryPut(q), hits)
				}
			}
			byId := func(a impl.Hit, b impl.Hit) int { return a.Id - b.Id }
			slices.SortFunc(up, byId)
			slices.SortFunc(down, byId)
			if !slices.Equal(up, down) {
				t.Errorf("%s: %v %v", impl.QueryPut(q), up, down)
			}
		}
	}
}

// byNumberByLook sorts those with a number and those without each for themselves.
func byNumberByLook(x impl.Index, q impl.Query, field string, down bool) []impl.Hit {
	var with, without []impl.Hit
	for _, r := range x.Rows {
		if !meetsByLook(x.Fields, r.Doc, q) {
			continue
		}
		text, there := impl.DocText(r.Doc, field)
		n, _ := strconv.Atoi(text)
		if there {
			with = append(with, impl.Hit{Id: r.Id, Key: r.Doc.Key, Score: n})
		} else {
			without = append(without, impl.Hit{Id: r.Id, Key: r.Doc.Key})
		}
	}
	sort.Slice(without, func(i int, j int) bool { return without[i].Key < without[j].Key })
	sort.Slice(with, func(i int, j int) bool {
		if with[i].Score == with[j].Score {
			return with[i].Key < with[j].Key
		}
		return (with[i].Score < with[j].Score) != down
	})
	return append(with, without...)
}

func TestP38P39P40WhatIsNotRanked(t *testing.T) {
	x := indexWith(t, sampleFields(), sampleDocs(t)...)
	for _, field := range []string{"title", "body", "color", "zz", "", "Price", "price ", "pric", strings.Repeat("p", 99)} {
		for _, down := range []bool{false, true} {
			if got := impl.RankBy(x, allOf(), field, down); len(got) != 0 {
				t.Errorf("by %q: %v", field, got)
			}
		}
	}
	for _, q := range slices.Concat(notFitting(), wrongQueries(), []impl.Query{{}, roundQuery(impl.QueryNot, 1), roundQuery(impl.QueryOr, 2), roundQuery(impl.QueryAnd, 4)}) {
		if len(impl.Rank(x, q)) != 0 || len(impl.RankBy(x, q, "price", true)) != 0 || len(impl.RankBy(x, q, "price", false)) != 0 {
			t.Errorf("%v is ranked", q.Kind)
		}
		for id := range impl.DocMax {
			if got := impl.Score(x, q, id); got != 0 {
				t.Errorf("%v: %d", q.Kind, got)
			}
		}
	}
	for what, x := range wrongIndexes(t) {
		for _, q := range []impl.Query{allOf(), wordOf("", "red"), beginOf("", "r"), someOf(wordOf("", "red"), allOf())} {
			if len(impl.Rank(x, q)) != 0 || len(impl.RankBy(x, q, "price", true)) != 0 || len(impl.RankBy(x, q, "price", false)) != 0 {
				t.Errorf("%s: ranked", what)
			}
			for id := range 6 {
				if got := impl.Score(x, q, id); got != 0 {
					t.Errorf("%s: %d", what, got)
				}
			}
		}
	}
}

func TestP73WhatIsLookedForTwice(t *testing.T) {
	for _, a := range sampleAsked(t, 60) {
		c := chanceOf(73)
		for range 50 {
			q := c.question(3)
			found := impl.Find(a.x, q)
			for _, p := range []impl.Query{someOf(q, q), bothOf(q, q), someOf(q, q, q, q), bothOf(q, q, q)} {
				if got := impl.Find(a.x, p); !slices.Equal(got, found) {
					t.Errorf("%s: %v, not %v", impl.QueryPut(p), got, found)
				}
				for _, r := range a.x.Rows {
					if got, once := impl.Score(a.x, p, r.Id), impl.Score(a.x, q, r.Id); got != len(p.Parts)*once {
						t.Errorf("%s of %d: %d, not %d times %d", impl.QueryPut(p), r.Id, got, len(p.Parts), once)
					}
				}
			}
		}
	}
}

func TestP77WhatLooksForNoWords(t *testing.T) {
	for _, x := range sampleIndexes(t) {
		keys := keysOf(x)
		slices.Sort(keys)
		for _, q := range []impl.Query{allOf(), notOf(notOf(allOf())), someOf(allOf(), notOf(allOf())), bothOf(allOf(), allOf())} {
			hits := impl.Rank(x, q)
			var got []string
			for _, h := range hits {
				got = append(got, h.Key)
				if h.Score != 0 {
					t.Errorf("%s: %v", impl.QueryPut(q), h)
				}
			}
			if !slices.Equal(got, keys) {
				t.Errorf("%s: %q, not %q", impl.QueryPut(q), got, keys)
			}
		}
	}
}

// manyHits is hits in no order, some of them alike.
func manyHits(many int) []impl.Hit {
	var list []impl.Hit
	for i := range many {
		list = append(list, impl.Hit{Id: i, Key: "k" + strconv.Itoa(i%7), Score: -i % 5})
	}
	return list
}

func TestP41P79Pages(t *testing.T) {
	if impl.SkipMax != 1000 {
		t.Error(impl.SkipMax)
	}
	for many := range 12 {
		list := manyHits(many)
		for skip := range 14 {
			for told := range 14 {
				var want []impl.Hit
				for i, h := range list {
					if skip <= i && i < skip+told {
						want = append(want, h)
					}
				}
				if got := impl.Page(list, skip, told); !slices.Equal(got, want) {
					t.Errorf("%d of %d from %d on: %v", told, many, skip, got)
				}
			}
			first, behind := impl.Page(list, 0, skip), impl.Page(list, skip, impl.SkipMax)
			if !slices.Equal(slices.Concat(first, behind), list) {
				t.Errorf("%d: %v and %v", many, first, behind)
			}
		}
		if !slices.Equal(impl.Page(list, 0, many), list) || !slices.Equal(impl.Page(list, 0, impl.SkipMax), list) || len(impl.Page(list, 0, 0)) != 0 || len(impl.Page(list, many, impl.SkipMax)) != 0 || len(impl.Page(list, impl.SkipMax, impl.SkipMax)) != 0 {
			t.Errorf("%d: all, or none", many)
		}
	}
}

func TestP41LimitsOfPages(t *testing.T) {
	list := manyHits(2*impl.SkipMax + 5)
	for _, c := range [][2]int{{0, 1000}, {1000, 1000}, {1000, 0}, {1000, 1}, {999, 1000}, {1000, 999}, {0, 0}} {
		if got := impl.Page(list, c[0], c[1]); !slices.Equal(got, list[c[0]:c[0]+c[1]]) {
			t.Errorf("%v: %d hits", c, len(got))
		}
	}
	for _, c := range [][2]int{{-1, 1}, {1, -1}, {-1, -1}, {1001, 1}, {1, 1001}, {1001, 1001}, {math.MinInt, 1}, {1, math.MinInt}, {math.MaxInt, 1}, {1, math.MaxInt}, {math.MaxInt, math.MaxInt}, {0, 1001}, {1001, 0}, {0, -1}, {-1, 0}} {
		for _, given := range [][]impl.Hit{list, list[:3], nil} {
			if got := impl.Page(given, c[0], c[1]); len(got) != 0 {
				t.Errorf("%v of %d: %d hits", c, len(given), len(got))
			}
		}
	}
}

func TestP41PagesOfWhatIsRanked(t *testing.T) {
	x := indexWith(t, sampleFields(), sampleDocs(t)...)
	hits := impl.Rank(x, queryOf(t, "(apple | pie)"))
	if got := fmt.Sprint(impl.Page(hits, 1, 1), impl.Page(hits, 2, 9), impl.Page(hits, 3, 9)); got != "[{1 b 1866}] [{0 a 798}] []" {
		t.Error(got)
	}
}
