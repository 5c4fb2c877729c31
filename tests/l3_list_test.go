package tests

import (
	"fmt"
	"regexp"
	"slices"
	"strconv"
	"strings"
	"testing"

	"loop.example/spandrel/impl"
)

// subsets is all sets of some numbers.
func subsets(numbers []int) [][]int {
	var lists [][]int
	for bits := range 1 << len(numbers) {
		var list []int
		for i, n := range numbers {
			if bits>>i&1 == 1 {
				list = append(list, n)
			}
		}
		lists = append(lists, list)
	}
	return lists
}

func smallSets() [][]int {
	return subsets([]int{0, 1, 2, 7, impl.NumMax - 1, impl.NumMax})
}

// steps is numbers from one on, so many, so far from each other.
func steps(from int, many int, width int) []int {
	var list []int
	for i := range many {
		list = append(list, from+i*width)
	}
	return list
}

func wrongSets() [][]int {
	return [][]int{
		{-1}, {impl.NumMax + 1}, {1, 1}, {2, 1}, {0, 1, 1}, {0, 2, 1}, {-1, 0}, {5, impl.NumMax + 1},
		{-1 << 63}, {1<<63 - 1}, {0, -1 << 63}, {-1 << 63, 1<<63 - 1}, steps(0, impl.SetMax+1, 1), steps(0, 100, 3),
	}
}

func TestP15WhatASetIs(t *testing.T) {
	if impl.SetMax != 16 {
		t.Error(impl.SetMax)
	}
	for _, list := range append(smallSets(), nil, []int{}, steps(0, impl.SetMax, 1), steps(impl.NumMax-15, impl.SetMax, 1)) {
		if !impl.SetOk(list) {
			t.Errorf("%v is no set", list)
		}
		for _, n := range []int{-1 << 63, -1, 0, 1, 2, 3, 7, 15, 16, impl.NumMax - 1, impl.NumMax, impl.NumMax + 1} {
			if impl.SetHas(list, n) != slices.Contains(list, n) {
				t.Errorf("%v: %d", list, n)
			}
		}
	}
	for _, list := range wrongSets() {
		if impl.SetOk(list) || impl.SetHas(list, list[0]) || impl.SetHas(list, 0) {
			t.Errorf("%v is a set", list)
		}
	}
}

// byLook is what two sets both have, what one has, and what the first alone has, by a look at each number.
func byLook(a []int, b []int) (both []int, either []int, less []int) {
	for _, n := range a {
		if slices.Contains(b, n) {
			both = append(both, n)
		} else {
			less = append(less, n)
		}
	}
	either = append(append(either, less...), b...)
	slices.Sort(either)
	return both, either, less
}

func TestP12P13P14TwoSets(t *testing.T) {
	for _, a := range smallSets() {
		for _, b := range smallSets() {
			and, or, less := impl.SetAnd(a, b), impl.SetOr(a, b), impl.SetLess(a, b)
			both, either, rest := byLook(a, b)
			if !slices.Equal(and, both) || !slices.Equal(or, either) || !slices.Equal(less, rest) {
				t.Errorf("%v and %v: %v, %v, %v", a, b, and, or, less)
			}
			if !slices.Equal(and, impl.SetAnd(b, a)) || !slices.Equal(or, impl.SetOr(b, a)) {
				t.Errorf("%v and %v: the other way round", a, b)
			}
			if len(or) != len(a)+len(b)-len(and) || !slices.Equal(impl.SetOr(less, and), a) || len(impl.SetAnd(less, and)) != 0 {
				t.Errorf("%v and %v: together", a, b)
			}
		}
		if !slices.Equal(impl.SetAnd(a, a), a) || !slices.Equal(impl.SetOr(a, a), a) || len(impl.SetLess(a, a)) != 0 {
			t.Errorf("%v and itself", a)
		}
	}
}

func TestP13GreatSets(t *testing.T) {
	even, odd := steps(0, impl.SetMax, 2), steps(1, impl.SetMax, 2)
	if got := impl.SetOr(even, odd); !slices.Equal(got, steps(0, 2*impl.SetMax, 1)) {
		t.Error(got)
	}
	low, high := steps(0, impl.SetMax, 1), steps(100, impl.SetMax, 1)
	if !slices.Equal(impl.SetOr(high, low), append(slices.Clone(low), high...)) || len(impl.SetAnd(high, low)) != 0 || !slices.Equal(impl.SetLess(high, low), high) {
		t.Error("apart")
	}
	if !slices.Equal(impl.SetAnd(low, low), low) || len(impl.SetLess(low, low)) != 0 {
		t.Error("the same")
	}
}

func TestP12P13P14WrongSets(t *testing.T) {
	right := []int{0, 1}
	for _, list := range wrongSets() {
		for i, got := range [][]int{
			impl.SetAnd(list, right), impl.SetAnd(right, list), impl.SetAnd(list, list), impl.SetOr(list, right), impl.SetOr(right, list), impl.SetOr(list, nil),
			impl.SetLess(list, right), impl.SetLess(right, list), impl.SetLess(list, nil), impl.SetOr(nil, list), impl.SetLess(list, list),
		} {
			if len(got) != 0 {
				t.Errorf("%v, %d: %v", list, i, got)
			}
		}
	}
}

func TestP17ThreeSets(t *testing.T) {
	lists := subsets([]int{0, 3, 4, impl.NumMax})
	for _, a := range lists {
		for _, b := range lists {
			for _, c := range lists {
				want := impl.SetAnd(a, impl.SetAnd(b, c))
				if !slices.Equal(want, impl.SetAnd(impl.SetAnd(a, b), c)) || !slices.Equal(want, impl.SetAnd(c, impl.SetAnd(b, a))) || !slices.Equal(want, impl.SetAnd(b, impl.SetAnd(c, a))) {
					t.Errorf("%v, %v, %v: the order", a, b, c)
				}
				if !slices.Equal(impl.SetAnd(a, impl.SetOr(b, c)), impl.SetOr(impl.SetAnd(a, b), impl.SetAnd(a, c))) {
					t.Errorf("%v, %v, %v: not spread", a, b, c)
				}
			}
		}
	}
	even, odd := steps(0, impl.SetMax, 2), steps(1, impl.SetMax, 2)
	if or := impl.SetOr(even, odd); impl.SetOk(or) || len(impl.SetAnd(even, or)) != 0 {
		t.Error("more than a set has")
	}
}

func TestP66ASetWithNothing(t *testing.T) {
	for _, a := range append(smallSets(), steps(0, impl.SetMax, 5)) {
		for _, none := range [][]int{nil, {}} {
			if !slices.Equal(impl.SetOr(a, none), a) || !slices.Equal(impl.SetOr(none, a), a) || len(impl.SetAnd(a, none)) != 0 || len(impl.SetAnd(none, a)) != 0 {
				t.Errorf("%v with nothing", a)
			}
			if !slices.Equal(impl.SetLess(a, none), a) || len(impl.SetLess(none, a)) != 0 || impl.SetHas(none, 0) {
				t.Errorf("%v less nothing", a)
			}
		}
	}
}

func TestP16SetsAreReadBack(t *testing.T) {
	for _, c := range []struct {
		list []int
		want string
	}{
		{nil, ""}, {[]int{0}, "0"}, {[]int{impl.NumMax}, "999999999"}, {[]int{0, 3, 4, 5}, "0 3 1 1"}, {[]int{7, 10, impl.NumMax}, "7 3 999999989"},
		{steps(0, impl.SetMax, 1), "0" + strings.Repeat(" 1", 15)}, {[]int{0, impl.NumMax}, "0 999999999"},
	} {
		if got := impl.SetGaps(c.list); got != c.want {
			t.Errorf("%v: %q", c.list, got)
		}
	}
	for _, list := range append(smallSets(), steps(0, impl.SetMax, 1), steps(9, impl.SetMax, 1000)) {
		got, ok := impl.SetRead(impl.SetGaps(list))
		if !ok || !slices.Equal(got, list) {
			t.Errorf("%v: %v %v", list, got, ok)
		}
	}
	for _, list := range wrongSets() {
		if s := impl.SetGaps(list); s != "" {
			t.Errorf("%v: %q", list, s)
		}
	}
}

var gapsPattern = regexp.MustCompile(`\A(?:0|[1-9][0-9]{0,8})(?: [1-9][0-9]{0,8}){0,15}\z`)

// gapsAreASet says whether a text is what SetGaps may write.
func gapsAreASet(s string) bool {
	if s == "" {
		return true
	}
	if !gapsPattern.MatchString(s) {
		return false
	}
	sum := 0
	for _, part := range strings.Split(s, " ") {
		n, _ := strconv.Atoi(part)
		sum += n
	}
	return sum <= impl.NumMax
}

func TestP16TextsThatAreNearlySets(t *testing.T) {
	full := "0" + strings.Repeat(" 1", 15)
	list := append(sampleTexts(), " ", "0 0", "1 0", "00", "01", "-1", "1 -1", "+1", "1  2", " 1", "1 ", "1,2", "1\n2", full, full+" 1", "1000000000", "999999999 1", "999999998 1", "999999998 2", "0 999999999", "0 1000000000", "99999999999999999999", "1 99999999999999999999", strings.Repeat("999999999 ", 30)+"999999999")
	for _, s := range []string{"0", "7", "0 3 1 1", "999999999", "999999998 1", full} {
		list = append(list, nearTexts(s)...)
	}
	for _, s := range append(list, randomTexts(2000, "0011299  ", 12)...) {
		got, ok := impl.SetRead(s)
		if ok != gapsAreASet(s) || !ok && len(got) != 0 || ok && (!impl.SetOk(got) || impl.SetGaps(got) != s) {
			t.Errorf("%q: %s %v", s, fmt.Sprint(got), ok)
		}
	}
}
