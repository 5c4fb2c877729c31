package tests

import (
	"fmt"
	"math"
	"slices"
	"strconv"
	"strings"
	"testing"

	"loop.example/spandrel/impl"
)

// groupedDocs has tags that are the beginning of others, the same one twice in a cell, numbers on both sides of 0, alike ones, and nothing.
func groupedDocs(t testing.TB) []impl.Doc {
	return []impl.Doc{
		docOf(t, "h; color=red,blue; price=10"), docOf(t, "b; color=blue,blue,re; price=-10"), docOf(t, "c; color=red; price=0"), docOf(t, "a; price=-1"),
		docOf(t, "e; color=re,red,reds,b1"), docOf(t, "f; price=9; title=red blue 77"), docOf(t, "d"), docOf(t, "g; color=green; price=-10"),
	}
}

func groupsText(list []impl.Group) string {
	var parts []string
	for _, g := range list {
		parts = append(parts, g.Tag+"="+strconv.Itoa(g.Many))
	}
	return strings.Join(parts, " ")
}

func binsText(list []impl.Bin) string {
	var parts []string
	for _, b := range list {
		parts = append(parts, strconv.Itoa(b.From)+"="+strconv.Itoa(b.Many))
	}
	return strings.Join(parts, " ")
}

// idLists is Ids that are there and that are not, in order and not, once and more often.
func idLists(x impl.Index, c chance) [][]int {
	lists := [][]int{nil, {}, steps(-3, 30, 1), {math.MinInt, math.MaxInt, -1, x.Next}}
	all := impl.Find(x, allOf())
	for range 6 {
		var list []int
		for range c.Intn(12) {
			list = append(list, c.Intn(12)-1)
		}
		lists = append(lists, list, slices.Concat(all, list))
	}
	return append(lists, all)
}

// numsByLook is numbers of documents, by a look at each row.
func numsByLook(x impl.Index, ids []int, field string) []int {
	var nums []int
	for _, r := range x.Rows {
		for _, f := range x.Fields {
			text, there := impl.DocText(r.Doc, f.Name)
			if f.Name == field && f.Kind == impl.FieldNum && there && slices.Index(ids, r.Id) >= 0 {
				n, _ := strconv.Atoi(text)
				nums = append(nums, n)
			}
		}
	}
	return nums
}

func TestP42GroupsOfATable(t *testing.T) {
	x := indexWith(t, sampleFields(), groupedDocs(t)...)
	for _, c := range []struct {
		ids  []int
		want string
	}{
		{steps(0, 8, 1), "red=3 blue=2 re=2 b1=1 green=1 reds=1"}, {[]int{7, 6, 5, 4, 3, 2, 1, 0}, "red=3 blue=2 re=2 b1=1 green=1 reds=1"}, {[]int{4}, "b1=1 re=1 red=1 reds=1"}, {[]int{1}, "blue=1 re=1"}, {[]int{1, 1, 1}, "blue=1 re=1"},
		{[]int{1, 4, 1, 4}, "re=2 b1=1 blue=1 red=1 reds=1"}, {[]int{3, 5, 6}, ""}, {nil, ""}, {[]int{-1, 8, 99, math.MinInt, math.MaxInt}, ""}, {[]int{2, 99, -1}, "red=1"}, {[]int{7, 0}, "blue=1 green=1 red=1"},
	} {
		if got := groupsText(impl.Groups(x, c.ids, "color")); got != c.want {
			t.Errorf("%v: %s", c.ids, got)
		}
	}
}

func TestP42P80TagsAreFound(t *testing.T) {
	list := []impl.Index{indexWith(t, sampleFields(), groupedDocs(t)...)}
	for i, x := range append(list, sampleIndexes(t)...) {
		for _, ids := range idLists(x, chanceOf(int64(i))) {
			groups := impl.Groups(x, ids, "color")
			together := 0
			for at, g := range groups {
				together += g.Many
				among := 0
				for _, id := range impl.Find(x, tagOf("color", g.Tag)) {
					if slices.Contains(ids, id) {
						among++
					}
				}
				if g.Many != among || g.Many < 1 {
					t.Errorf("%v: %v, not %d", ids, g, among)
				}
				if at > 0 && (groups[at-1].Many < g.Many || groups[at-1].Many == g.Many && groups[at-1].Tag >= g.Tag) {
					t.Errorf("%v: %v", ids, groups)
				}
			}
			tags := 0
			for _, r := range x.Rows {
				if slices.Contains(ids, r.Id) {
					tags += len(impl.DocTags(x.Fields, r.Doc, "color"))
				}
			}
			if together != tags {
				t.Errorf("%v: %v, not %d together", ids, groups, tags)
			}
		}
	}
}

func TestP42SeveralFieldsOfTags(t *testing.T) {
	fields := []impl.Field{{Name: "x", Kind: impl.FieldTag}, {Name: "y", Kind: impl.FieldTag}, {Name: "n", Kind: impl.FieldNum}, {Name: "m", Kind: impl.FieldNum}}
	x := indexWith(t, fields, docOf(t, "k; m=3; n=1; x=a,b; y=b"), docOf(t, "j; n=2; y=b,c"))
	got := fmt.Sprint(impl.Groups(x, []int{0, 1}, "x"), impl.Groups(x, []int{0, 1}, "y"), impl.StatOf(x, []int{0, 1}, "n"), impl.StatOf(x, []int{0, 1}, "m"), impl.Bins(x, []int{0, 1}, "n", 1), impl.Bins(x, []int{0, 1}, "m", 2))
	if got != "[{a 1} {b 1}] [{b 2} {c 1}] {2 3 1 2} {1 3 3 3} [{1 1} {2 1}] [{2 1}]" {
		t.Error(got)
	}
}

func TestP43NumbersOfATable(t *testing.T) {
	x := indexWith(t, sampleFields(), groupedDocs(t)...)
	for _, c := range []struct {
		ids  []int
		want string
	}{
		{steps(0, 8, 1), "{6 -2 -10 10}"}, {[]int{3, 1, 3, 1, 1}, "{2 -11 -10 -1}"}, {[]int{0, 5}, "{2 19 9 10}"}, {[]int{2}, "{1 0 0 0}"}, {[]int{4, 6}, "{0 0 0 0}"}, {nil, "{0 0 0 0}"}, {[]int{-1, 8, math.MaxInt}, "{0 0 0 0}"}, {[]int{7}, "{1 -10 -10 -10}"}, {[]int{1, 7, 4}, "{2 -20 -10 -10}"}, {[]int{2, 3}, "{2 -1 -1 0}"}, {[]int{99, 0}, "{1 10 10 10}"},
	} {
		if got := fmt.Sprint(impl.StatOf(x, c.ids, "price")); got != c.want {
			t.Errorf("%v: %s", c.ids, got)
		}
	}
}

func TestP43TheGreatestSums(t *testing.T) {
	for _, n := range []int{impl.NumMax, -impl.NumMax} {
		x := indexWith(t, sampleFields())
		for i := range impl.DocMax {
			x, _, _ = impl.IndexPut(x, impl.Doc{Key: "k" + strconv.Itoa(i), Cells: []impl.Cell{{Name: "price", Text: strconv.Itoa(n)}}})
		}
		if got := impl.StatOf(x, steps(0, 8, 1), "price"); got != (impl.Stat{Many: 8, Sum: 8 * n, Least: n, Most: n}) {
			t.Error(got)
		}
	}
}

func TestP43P44NumbersTogether(t *testing.T) {
	list := []impl.Index{indexWith(t, sampleFields(), groupedDocs(t)...)}
	for i, x := range append(list, sampleIndexes(t)...) {
		all := impl.Find(x, allOf())
		for _, field := range []string{"price", "n"} {
			for _, ids := range idLists(x, chanceOf(int64(i))) {
				nums := numsByLook(x, ids, field)
				want := impl.Stat{Many: len(nums)}
				for at, n := range nums {
					want.Sum += n
					if at == 0 || n < want.Least {
						want.Least = n
					}
					if at == 0 || n > want.Most {
						want.Most = n
					}
				}
				if got := impl.StatOf(x, ids, field); got != want {
					t.Errorf("%v: %v, not %v", ids, got, want)
				}
			}
			for _, some := range subsets(all) {
				a, b := impl.StatOf(x, some, field), impl.StatOf(x, impl.SetLess(all, some), field)
				if got := impl.StatOf(x, all, field); got != statsTogether(a, b) {
					t.Errorf("%v: %v and %v are not %v", some, a, b, got)
				}
			}
		}
	}
}

func statsTogether(a impl.Stat, b impl.Stat) impl.Stat {
	if a.Many == 0 || b.Many == 0 {
		return impl.Stat{Many: a.Many + b.Many, Sum: a.Sum + b.Sum, Least: a.Least + b.Least, Most: a.Most + b.Most}
	}
	return impl.Stat{Many: a.Many + b.Many, Sum: a.Sum + b.Sum, Least: min(a.Least, b.Least), Most: max(a.Most, b.Most)}
}

func TestP45BinsOfATable(t *testing.T) {
	x := indexWith(t, sampleFields(), groupedDocs(t)...)
	great := indexWith(t, sampleFields(), docOf(t, "a; price=999999999"), docOf(t, "b; price=-999999999"), docOf(t, "c; price=0"), docOf(t, "d; price=-1"), docOf(t, "e; price=999999998"))
	for _, c := range []struct {
		x     impl.Index
		ids   []int
		width int
		want  string
	}{
		{x, steps(0, 8, 1), 1, "-10=2 -1=1 0=1 9=1 10=1"}, {x, steps(0, 8, 1), 5, "-10=2 -5=1 0=1 5=1 10=1"}, {x, steps(0, 8, 1), 10, "-10=3 0=2 10=1"}, {x, steps(0, 8, 1), 9, "-18=2 -9=1 0=1 9=2"}, {x, steps(0, 8, 1), 11, "-11=3 0=3"}, {x, steps(0, 8, 1), 3, "-12=2 -3=1 0=1 9=2"}, {x, steps(0, 8, 1), 2, "-10=2 -2=1 0=1 8=1 10=1"},
		{x, steps(0, 8, 1), impl.NumMax, "-999999999=3 0=3"}, {x, []int{7, 1, 7, 1}, 10, "-10=2"}, {x, []int{7}, 7, "-14=1"}, {x, []int{4, 6}, 5, ""}, {x, nil, 5, ""}, {x, []int{-1, 8, 99}, 5, ""}, {x, []int{5, 0}, 5, "5=1 10=1"},
		{great, steps(0, 5, 1), impl.NumMax, "-999999999=2 0=2 999999999=1"}, {great, steps(0, 5, 1), impl.NumMax - 1, "-1999999996=1 -999999998=1 0=1 999999998=2"}, {great, steps(0, 5, 1), 1, "-999999999=1 -1=1 0=1 999999998=1 999999999=1"},
	} {
		if got := binsText(impl.Bins(c.x, c.ids, "price", c.width)); got != c.want {
			t.Errorf("%v, %d wide: %s", c.ids, c.width, got)
		}
	}
	for _, width := range []int{0, -1, -5, impl.NumMax + 1, -impl.NumMax, math.MinInt, math.MaxInt} {
		if got := impl.Bins(x, steps(0, 8, 1), "price", width); len(got) != 0 {
			t.Errorf("%d wide: %v", width, got)
		}
	}
}

func TestP45EachNumberIsInOneBin(t *testing.T) {
	list := []impl.Index{indexWith(t, sampleFields(), groupedDocs(t)...)}
	for i, x := range append(list, sampleIndexes(t)...) {
		for _, ids := range idLists(x, chanceOf(int64(i))) {
			nums := numsByLook(x, ids, "price")
			for _, width := range []int{1, 2, 3, 4, 5, 7, 10, 100, 333333333, impl.NumMax - 1, impl.NumMax} {
				bins := impl.Bins(x, ids, "price", width)
				together := 0
				for at, b := range bins {
					together += b.Many
					within := 0
					for _, n := range nums {
						if b.From <= n && n < b.From+width {
							within++
						}
					}
					if b.Many != within || b.Many < 1 || b.From%width != 0 || at > 0 && bins[at-1].From >= b.From {
						t.Errorf("%v, %d wide: %v", ids, width, bins)
					}
				}
				if together != len(nums) {
					t.Errorf("%v, %d wide: %v", ids, width, bins)
				}
			}
		}
	}
}

func TestP81BinsOneWide(t *testing.T) {
	list := []impl.Index{indexWith(t, sampleFields(), groupedDocs(t)...)}
	for i, x := range append(list, sampleIndexes(t)...) {
		for _, ids := range idLists(x, chanceOf(int64(i))) {
			var got impl.Stat
			bins := impl.Bins(x, ids, "price", 1)
			for _, b := range bins {
				got.Many += b.Many
				got.Sum += b.Many * b.From
			}
			if len(bins) > 0 {
				got.Least, got.Most = bins[0].From, bins[len(bins)-1].From
			}
			if want := impl.StatOf(x, ids, "price"); got != want {
				t.Errorf("%v: %v, not %v", ids, got, want)
			}
		}
	}
}

func TestP42P43P45WhatHasNoGroups(t *testing.T) {
	nothing := func(what string, x impl.Index, ids []int, tag string, num string) {
		t.Helper()
		if got := impl.Groups(x, ids, tag); len(got) != 0 {
			t.Errorf("%s: %v", what, got)
		}
		if got := impl.StatOf(x, ids, num); got != (impl.Stat{}) {
			t.Errorf("%s: %v", what, got)
		}
		if got := impl.Bins(x, ids, num, 5); len(got) != 0 {
			t.Errorf("%s: %v", what, got)
		}
	}
	x := indexWith(t, sampleFields(), groupedDocs(t)...)
	all := steps(0, 8, 1)
	for _, field := range []string{"title", "body", "zz", "", "Color", "Price", "colo", "pric", "colors", "prices", "red", "10"} {
		nothing(field, x, all, field, field)
	}
	nothing("of another kind", x, all, "price", "color")
	nothing("no documents", indexWith(t, sampleFields()), all, "color", "price")
	for what, x := range wrongIndexes(t) {
		nothing(what, x, all, "color", "price")
	}
}

func TestP35NumbersUpToOneAndFromThereOn(t *testing.T) {
	c := chanceOf(35)
	for i, x := range sampleIndexes(t) {
		field := "price"
		if !slices.Equal(x.Fields, sampleFields()) {
			field = "n"
		}
		all := impl.Find(x, numOf(field, -impl.NumMax, impl.NumMax))
		if len(all) != len(numsByLook(x, steps(0, 40, 1), field)) {
			t.Errorf("%d: %v have a number", i, all)
		}
		cuts := []int{-impl.NumMax, impl.NumMax - 1, 0, -1, 1, 4, 5}
		for range 20 {
			cuts = append(cuts, c.Intn(21)-10)
		}
		for _, n := range cuts {
			up, on := impl.Find(x, numOf(field, -impl.NumMax, n)), impl.Find(x, numOf(field, n+1, impl.NumMax))
			if !slices.Equal(impl.SetOr(up, on), all) || len(impl.SetAnd(up, on)) != 0 {
				t.Errorf("%d: %v and %v", n, up, on)
			}
			if got := impl.StatOf(x, up, field); got.Many > 0 && got.Most > n || got.Many != len(up) {
				t.Errorf("up to %d: %v", n, got)
			}
			if got := impl.StatOf(x, on, field); got.Many > 0 && got.Least <= n || got.Many != len(on) {
				t.Errorf("from %d on: %v", n+1, got)
			}
			low, high := min(n, n+3), max(n, n+3)
			if high <= impl.NumMax {
				first, second := impl.Find(x, numOf(field, low, n+1)), impl.Find(x, numOf(field, n+2, high))
				if !slices.Equal(impl.SetOr(first, second), impl.Find(x, numOf(field, low, high))) || len(impl.SetAnd(first, second)) != 0 {
					t.Errorf("%d..%d: %v and %v", low, high, first, second)
				}
			}
		}
	}
}
