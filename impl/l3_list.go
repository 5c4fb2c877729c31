package impl

import (
	"iter"
	"slices"
	"strconv"
	"strings"
)

// SetMax is how many numbers a set has at most.
const SetMax = 16

// number is what sets may be made of.
type number interface {
	~int | ~int8 | ~int16 | ~int32 | ~int64
}

// owner says which of two sets a number is in.
type owner struct {
	first  bool
	second bool
}

// SetOk says whether numbers are a set: ascending, from 0 on, each once.
func SetOk(list []int) bool {
	return len(list) <= SetMax && isAscending(list, 0, NumMax)
}

// SetAnd is what two sets both have.
func SetAnd(a []int, b []int) []int {
	if !SetOk(a) || !SetOk(b) {
		return nil
	}
	return ownedBy(a, b, func(o owner) bool { return o.first && o.second })
}

// SetOr is what one of two sets has.
func SetOr(a []int, b []int) []int {
	if !SetOk(a) || !SetOk(b) {
		return nil
	}
	return ownedBy(a, b, func(o owner) bool { return o.first || o.second })
}

// SetLess is what the first of two sets has, and not the second.
func SetLess(a []int, b []int) []int {
	if !SetOk(a) || !SetOk(b) {
		return nil
	}
	return ownedBy(a, b, func(o owner) bool { return o.first && !o.second })
}

// SetHas says whether a set has a number.
func SetHas(list []int, n int) bool {
	return SetOk(list) && slices.Contains(list, n)
}

// SetGaps is how far each number is above the one ahead.
func SetGaps(list []int) string {
	if !SetOk(list) {
		return ""
	}
	var gaps []string
	ahead := 0
	for _, n := range list {
		gaps = append(gaps, strconv.Itoa(n-ahead))
		ahead = n
	}
	return strings.Join(gaps, " ")
}

// SetRead reads such.
func SetRead(text string) ([]int, bool) {
	if text == "" {
		return nil, true
	}
	var list []int
	ahead := 0
	for _, part := range strings.Split(text, " ") {
		gap, ok := figuresGet(part)
		if !ok || gap > NumMax-ahead {
			return nil, false
		}
		ahead += gap
		list = append(list, ahead)
	}
	if !SetOk(list) {
		return nil, false
	}
	return list, true
}

// isAscending says whether numbers ascend, each once, from low to high.
func isAscending[N number](list []N, low N, high N) bool {
	for i, n := range list {
		if n < low || n > high || i > 0 && list[i-1] >= n {
			return false
		}
	}
	return true
}

// ownedBy is those numbers of two sets whose owners are asked for.
func ownedBy[N number](a []N, b []N, asked func(owner) bool) []N {
	var list []N
	for n, o := range sideBySide(a, b) {
		if asked(o) {
			list = append(list, n)
		}
	}
	return list
}

// sideBySide tells each number of two sets once, ascending, with its owners: of the two that are next the lesser one goes on.
func sideBySide[N number](a []N, b []N) iter.Seq2[N, owner] {
	return func(yield func(N, owner) bool) {
		nextA, nextB := oneByOne(a), oneByOne(b)
		x, moreA := nextA()
		y, moreB := nextB()
		for moreA || moreB {
			o := owner{first: moreA && (!moreB || x <= y), second: moreB && (!moreA || y <= x)}
			least := x
			if !o.first {
				least = y
			}
			if !yield(least, o) {
				return
			}
			if o.first {
				x, moreA = nextA()
			}
			if o.second {
				y, moreB = nextB()
			}
		}
	}
}

// oneByOne hands out a list, number by number, and false behind its end.
func oneByOne[N number](list []N) func() (N, bool) {
	at := 0
	return func() (N, bool) {
		if at == len(list) {
			return 0, false
		}
		at++
		return list[at-1], true
	}
}
