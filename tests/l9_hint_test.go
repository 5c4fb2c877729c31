package tests

import (
	"fmt"
	"math"
	"regexp"
	"runtime"
	"slices"
	"sort"
	"strconv"
	"strings"
	"sync"
	"testing"
	"time"

	"loop.example/spandrel/impl"
)

var (
	hintForm = regexp.MustCompile(`^[a-z0-9]+( [a-z0-9]+)*$`)
	textForm = regexp.MustCompile(`^[ -~]{0,60}$`)
	wordForm = regexp.MustCompile(`[A-Za-z0-9]+`)
)

// hintTexts is texts that may be hints: the least, the longest, such that begin others, and words that nothing is looked for by.
func hintTexts() []string {
	return []string{
		"0", "00", "7 7", "a", "a a", "a b c d e f g h i j k l m n o p q r s t u v w x y z 0 1 2 3", "aa", "ab", "red", "red apple", "red apples", "red tree", "reds", "s", "the", "the red of the", "z9",
		strings.Repeat("z", 60), strings.Repeat("y", 30) + " " + strings.Repeat("y", 29),
	}
}

// wrongHintTexts is texts that no hint may be.
func wrongHintTexts() []string {
	return []string{
		"", " ", "  ", " a", "a ", "a  b", " a b", "a b ", "a   b", "A", "aB", "a B", "Red", "reD", "a-b", "a,b", "a_b", "a.", "-", "a\tb", "a\nb", "a\n", "\x00", "a\x80", "caf\xc3\xa9", "a/b", "a:b", "a@b", "a[b", "a`b", "a{b",
		strings.Repeat("z", 61), strings.Repeat("a ", 30), strings.Repeat("a ", 31) + "a", strings.Repeat("a b ", 15) + "c", strings.Repeat("z", 9999),
	}
}

// fullHints is as many hints as there may be, by text.
func fullHints() []impl.Hint {
	var list []impl.Hint
	for i := range impl.HintMax {
		list = append(list, impl.Hint{Text: "h" + strconv.Itoa(i), Weight: 1 + i*7%4})
	}
	return list
}

// hintsThatAreOk is lists of all sizes.
func hintsThatAreOk() [][]impl.Hint {
	lists := [][]impl.Hint{nil, {}, {{Text: "red", Weight: 1}}, {{Text: "red", Weight: impl.NumMax}}, {{Text: "a", Weight: 5}, {Text: "a b", Weight: 5}, {Text: "a0", Weight: 5}, {Text: "aa", Weight: 7}, {Text: "b", Weight: 5}}, {{Text: "red", Weight: 5}, {Text: "red apple", Weight: 6}, {Text: "red tree", Weight: 9}}}
	for many := range impl.HintMax + 1 {
		lists = append(lists, fullHints()[:many])
	}
	c := chanceOf(46)
	for range 40 {
		texts := hintTexts()
		c.Shuffle(len(texts), func(i int, j int) { texts[i], texts[j] = texts[j], texts[i] })
		texts = texts[:c.Intn(impl.HintMax+1)]
		slices.Sort(texts)
		var list []impl.Hint
		for _, s := range texts {
			list = append(list, impl.Hint{Text: s, Weight: 1 + c.Intn(3)})
		}
		lists = append(lists, list)
	}
	return lists
}

// wrongHints is lists of hints that are not ok.
func wrongHints() [][]impl.Hint {
	lists := [][]impl.Hint{
		{{}}, {{Text: "red"}}, {{Weight: 1}}, {{Text: "red", Weight: -1}}, {{Text: "red", Weight: impl.NumMax + 1}}, {{Text: "red", Weight: math.MaxInt}}, {{Text: "red", Weight: math.MinInt}},
		{{Text: "b", Weight: 1}, {Text: "a", Weight: 1}}, {{Text: "a", Weight: 1}, {Text: "a", Weight: 1}}, {{Text: "a", Weight: 1}, {Text: "a", Weight: 2}}, {{Text: "a", Weight: 1}, {Text: "b", Weight: 1}, {Text: "a", Weight: 1}}, {{Text: "aa", Weight: 1}, {Text: "a", Weight: 1}}, {{Text: "a", Weight: 1}, {Text: "c", Weight: 1}, {Text: "b", Weight: 1}},
		append(fullHints(), impl.Hint{Text: "i", Weight: 1}), {{Text: "a", Weight: 1}, {Text: "b", Weight: 0}}, {{Text: "a", Weight: 0}, {Text: "b", Weight: 1}},
	}
	for _, s := range wrongHintTexts() {
		lists = append(lists, []impl.Hint{{Text: s, Weight: 1}})
	}
	return append(lists, []impl.Hint{{Text: "A", Weight: 1}, {Text: "b", Weight: 1}}, []impl.Hint{{Text: "", Weight: 1}, {Text: "b", Weight: 1}})
}

func TestP46HintsThatAreOk(t *testing.T) {
	if impl.HintMax != 10 || impl.FarMax != 3 {
		t.Error(impl.HintMax, impl.FarMax)
	}
	for _, list := range hintsThatAreOk() {
		if !impl.HintsOk(list) {
			t.Errorf("%v is not ok", list)
		}
	}
	for _, list := range wrongHints() {
		if impl.HintsOk(list) {
			t.Errorf("%v is ok", list)
		}
		if got, ok := impl.HintAdd(list, "red", 1); ok || len(got) != 0 {
			t.Errorf("%v: HintAdd %v", list, got)
		}
		if got := impl.HintFind(list, "", 9); len(got) != 0 {
			t.Errorf("%v: HintFind %v", list, got)
		}
	}
	for _, near := range []string{"red 9", "a", strings.Repeat("x", 59), strings.Repeat("x", 60)} {
		for _, s := range nearTexts(near) {
			want := hintForm.MatchString(s) && len(s) <= 60
			_, ok := impl.HintAdd(nil, s, 1)
			if impl.HintsOk([]impl.Hint{{Text: s, Weight: 1}}) != want || ok != want {
				t.Errorf("%q: not %v", s, want)
			}
		}
	}
}

// addedByLook is what is to come of a hint that is added to hints that are ok, by a map.
func addedByLook(list []impl.Hint, text string, weight int) ([]impl.Hint, bool) {
	weights := map[string]int{}
	for _, h := range list {
		weights[h.Text] = h.Weight
	}
	if !hintForm.MatchString(text) || len(text) > 60 || weight < 1 || weight > 999999999 {
		return list, false
	}
	weights[text] += weight
	if weights[text] > 999999999 || len(weights) > 10 {
		return list, false
	}
	var made []impl.Hint
	for s, w := range weights {
		made = append(made, impl.Hint{Text: s, Weight: w})
	}
	sort.Slice(made, func(i int, j int) bool { return made[i].Text < made[j].Text })
	return made, true
}

func TestP46AHintIsAdded(t *testing.T) {
	texts := append(hintTexts(), wrongHintTexts()...)
	texts = append(texts, "h0", "h9", "h", "i", "h00")
	added := 0
	for _, list := range hintsThatAreOk() {
		for _, s := range texts {
			for _, weight := range []int{1, 2, 999, impl.NumMax - 3, impl.NumMax - 1, impl.NumMax, impl.NumMax + 1, 0, -1, math.MaxInt, math.MinInt} {
				got, ok := impl.HintAdd(list, s, weight)
				want, can := addedByLook(list, s, weight)
				if ok != can || !slices.Equal(got, want) || !impl.HintsOk(got) {
					t.Errorf("%v, %q, %d: %v %v", list, s, weight, got, ok)
				}
				if ok {
					added++
				}
			}
		}
	}
	if added < 1000 {
		t.Errorf("only %d were added", added)
	}
}

func TestP46LimitsOfHints(t *testing.T) {
	full := fullHints()
	got, ok := impl.HintAdd(full, "i", 1)
	if ok || !slices.Equal(got, full) {
		t.Errorf("one more than there may be: %v", got)
	}
	for i := range full {
		want := slices.Clone(full)
		want[i].Weight += 5
		if got, ok := impl.HintAdd(full, full[i].Text, 5); !ok || !slices.Equal(got, want) {
			t.Errorf("%d, which is there already: %v", i, got)
		}
	}
	if got, ok := impl.HintAdd(full[:9], "h9", 2); !ok || len(got) != 10 {
		t.Errorf("the last that may be: %v", got)
	}
	most := []impl.Hint{{Text: "red", Weight: impl.NumMax - 5}}
	if got, ok := impl.HintAdd(most, "red", 5); !ok || got[0].Weight != impl.NumMax {
		t.Error(got)
	}
	if got, ok := impl.HintAdd(most, "red", 6); ok || !slices.Equal(got, most) {
		t.Error(got)
	}
	if got, ok := impl.HintAdd(nil, "red", impl.NumMax); !ok || !slices.Equal(got, []impl.Hint{{Text: "red", Weight: impl.NumMax}}) {
		t.Error(got)
	}
}

func TestP82AHintIsAddedTwice(t *testing.T) {
	for _, list := range hintsThatAreOk() {
		for _, s := range append(hintTexts(), "h3", "A") {
			for _, w := range [][2]int{{1, 1}, {3, 4}, {impl.NumMax - 1, 1}, {1, impl.NumMax - 4}, {500000000, 499999990}, {impl.NumMax, 1}} {
				first, ok1 := impl.HintAdd(list, s, w[0])
				twice, ok2 := impl.HintAdd(first, s, w[1])
				both, ok := impl.HintAdd(list, s, w[0]+w[1])
				if ok != (ok1 && ok2) || ok && !slices.Equal(twice, both) {
					t.Errorf("%v, %q, %v: %v, %v", list, s, w, twice, both)
				}
			}
		}
	}
}

// offeredByLook picks the best hint of those that are left, again and again.
func offeredByLook(list []impl.Hint, begin string, many int) []impl.Hint {
	var offered []impl.Hint
	for len(offered) < many {
		best := impl.Hint{}
		for _, h := range list {
			fits := len(h.Text) >= len(begin) && h.Text[:len(begin)] == begin && !slices.Contains(offered, h)
			if fits && (h.Weight > best.Weight || h.Weight == best.Weight && h.Text < best.Text) {
				best = h
			}
		}
		if best.Weight == 0 {
			break
		}
		offered = append(offered, best)
	}
	return offered
}

// beginnings is all beginnings of hints, and texts that no hint begins with.
func beginnings(list []impl.Hint) []string {
	begins := []string{"", " ", "A", "Red", "x", "red ", "red  ", "a b c d e f g h i j k l m n o p q r s t u v w x y z 0 1 2 3 4", "\x00", "\xff", strings.Repeat("z", 61), strings.Repeat("z", 999)}
	for _, h := range list {
		for n := range len(h.Text) + 1 {
			begins = append(begins, h.Text[:n])
		}
		begins = append(begins, h.Text+" ", h.Text+"a", "x"+h.Text, strings.ToUpper(h.Text))
	}
	return begins
}

func TestP47P48HintsAreOffered(t *testing.T) {
	for _, list := range hintsThatAreOk() {
		for _, begin := range beginnings(list) {
			for _, many := range []int{0, 1, 2, 3, 5, 9, 10, 11, 1000, math.MaxInt} {
				want := offeredByLook(list, begin, many)
				if got := impl.HintFind(list, begin, many); !slices.Equal(got, want) {
					t.Errorf("%v, %q, %d: %v, not %v", list, begin, many, got, want)
				}
			}
			for _, many := range []int{-1, -10, math.MinInt} {
				if got := impl.HintFind(list, begin, many); len(got) != 0 {
					t.Errorf("%v, %q, %d: %v", list, begin, many, got)
				}
			}
		}
		all := impl.HintFind(list, "", impl.HintMax)
		sort.Slice(all, func(i int, j int) bool { return all[i].Text < all[j].Text })
		if !slices.Equal(all, list) {
			t.Errorf("%v: all are %v", list, all)
		}
	}
}

func TestP47HintsThatCountAsMuch(t *testing.T) {
	list := []impl.Hint{{Text: "a", Weight: 5}, {Text: "a b", Weight: 9}, {Text: "a0", Weight: 5}, {Text: "aa", Weight: 5}, {Text: "ab", Weight: 9}, {Text: "b", Weight: 5}}
	if got := fmt.Sprint(impl.HintFind(list, "", 9), impl.HintFind(list, "a", 3), impl.HintFind(list, "a ", 3), impl.HintFind(list, "aa", 1), impl.HintFind(list, "b", 0)); got != "[{a b 9} {ab 9} {a 5} {a0 5} {aa 5} {b 5}] [{a b 9} {ab 9} {a 5}] [{a b 9}] [{aa 5}] []" {
		t.Error(got)
	}
}

func TestP83ALongerBeginning(t *testing.T) {
	for _, list := range hintsThatAreOk() {
		for _, begin := range beginnings(list) {
			if begin == "" {
				continue
			}
			shorter := impl.HintFind(list, begin[:len(begin)-1], impl.HintMax)
			var want []impl.Hint
			for _, h := range shorter {
				if strings.HasPrefix(h.Text, begin) {
					want = append(want, h)
				}
			}
			if got := impl.HintFind(list, begin, impl.HintMax); !slices.Equal(got, want) {
				t.Errorf("%v, %q: %v, not %v", list, begin, got, want)
			}
		}
	}
}

// farByLook tries at each place all three ways on, those that were tried already being kept.
func farByLook(a string, b string, tried map[[2]string]int) int {
	if a == "" || b == "" {
		return len(a) + len(b)
	}
	if n, ok := tried[[2]string{a, b}]; ok {
		return n
	}
	n := farByLook(a[1:], b[1:], tried)
	if a[0] != b[0] {
		n = 1 + min(n, farByLook(a[1:], b, tried), farByLook(a, b[1:], tried))
	}
	tried[[2]string{a, b}] = n
	return n
}

// shortTexts is all texts of few bytes.
func shortTexts(bytes string, longest int) []string {
	list := []string{""}
	last := list
	for range longest {
		var longer []string
		for _, s := range last {
			for i := range len(bytes) {
				longer = append(longer, s+bytes[i:i+1])
			}
		}
		list = append(list, longer...)
		last = longer
	}
	return list
}

func TestP49FarOfATable(t *testing.T) {
	long := strings.Repeat("a", 60)
	for _, c := range []struct {
		a, b string
		n    int
	}{
		{"", "", 0}, {"a", "", 1}, {"abc", "", 3}, {"abc", "abc", 0}, {"kitten", "sitting", 3}, {"ab", "ba", 2}, {"aple", "apple", 1}, {"flaw", "lawn", 2}, {"a", "A", 1}, {"Red", "red", 1}, {" ", "", 1}, {"a b", "ab", 1}, {"abcdef", "bcdefa", 2}, {"intention", "execution", 5}, {"saturday", "sunday", 3}, {"~", " ", 1}, {"aaa", "aa", 1}, {"abcabc", "abc", 3},
		{long, "", 60}, {long, long, 0}, {long, strings.Repeat("b", 60), 60}, {long, long[:59], 1}, {long, long[:59] + "b", 1}, {long, "b" + long[:59], 1}, {long, strings.Repeat("ab", 30), 30},
		{"\x1f", "", -1}, {"\x7f", "", -1}, {"\x7f", "\x7f", -1}, {"a", "a\n", -1}, {long + "a", "", -1}, {long + "a", long + "a", -1}, {long + "a", long, -1}, {"\xc3\xa9", "e", -1}, {strings.Repeat("a", 9999), strings.Repeat("a", 9999), -1}, {"\x00", "\x01", -1},
	} {
		if n, back := impl.Far(c.a, c.b), impl.Far(c.b, c.a); n != c.n || back != c.n {
			t.Errorf("%q and %q: %d, %d", c.a, c.b, n, back)
		}
	}
	for i := range 256 {
		s := string([]byte{byte(i)})
		want := 1
		if i < 32 || i > 126 {
			want = -1
		}
		if impl.Far(s, "") != want || impl.Far("ab", "a"+s+"b") != want {
			t.Errorf("byte %d", i)
		}
	}
}

func TestP49P50P51FarIsAWay(t *testing.T) {
	texts := shortTexts("ab", 4)
	tried := map[[2]string]int{}
	for _, a := range texts {
		for _, b := range texts {
			n := impl.Far(a, b)
			if n != farByLook(a, b, tried) || n != impl.Far(b, a) || (n == 0) != (a == b) || n < max(len(a)-len(b), len(b)-len(a)) || n > max(len(a), len(b)) {
				t.Errorf("%q and %q: %d", a, b, n)
			}
			for _, third := range texts {
				if n > impl.Far(a, third)+impl.Far(third, b) {
					t.Errorf("%q and %q by %q", a, b, third)
				}
			}
			farWithAByteMore(t, a, b, "a")
			farWithAByteMore(t, a, b, "c")
		}
	}
}

func farWithAByteMore(t *testing.T, a string, b string, more string) {
	t.Helper()
	n := impl.Far(a, b)
	for _, longer := range []string{a + more, more + a} {
		if m := impl.Far(longer, b); m < n-1 || m > n+1 {
			t.Errorf("%q and %q: %d, not about %d", longer, b, m, n)
		}
	}
	if impl.Far(a+more, b+more) != n || impl.Far(more+a, more+b) != n {
		t.Errorf("%q and %q with %q: not %d", a, b, more, n)
	}
}

func TestP49P50P51FarOfLongTexts(t *testing.T) {
	texts := randomTexts(60, "abAB 9~", 59)
	texts = append(texts, "", strings.Repeat("a", 59), strings.Repeat("ab", 29))
	for i, a := range texts {
		for _, b := range texts {
			n := impl.Far(a, b)
			if want := farByLook(a, b, map[[2]string]int{}); n != want {
				t.Errorf("%q and %q: %d, not %d", a, b, n, want)
			}
			if third := texts[(i+7)%len(texts)]; n > impl.Far(a, third)+impl.Far(third, b) {
				t.Errorf("%q and %q by %q", a, b, third)
			}
			farWithAByteMore(t, a, b, "~")
		}
	}
}

// nearByLook is words of all documents of an index, by a look at each, in bags by how far they are.
func nearByLook(x impl.Index, word string, far int) []string {
	var bags [4][]string
	folded := strings.ToLower(word)
	for _, r := range x.Rows {
		for _, c := range r.Doc.Cells {
			for _, term := range termsByLook(x.Fields, r.Doc, c.Name) {
				n := farByLook(term, folded, map[[2]string]int{})
				if term != "" && n <= far && !slices.Contains(bags[n], term) {
					bags[n] = append(bags[n], term)
				}
			}
		}
	}
	var near []string
	for _, bag := range bags {
		slices.Sort(bag)
		near = append(near, bag...)
	}
	return near
}

func TestP52WordsThatAreNear(t *testing.T) {
	found := 0
	for _, x := range sampleIndexes(t) {
		words := []string{"", "a", "s", "the", "red", "RED", "Reds", "rde", "aple", "Aple", "apples", "tre", "pi", "ip", "9", "x", "99x", "verylongword", "verylongwordindeed", "red pie", " red", "red!", "zzzzzzzzzz", strings.Repeat("r", 60), "~~~"}
		for _, e := range x.Entries {
			words = append(words, e.Term, strings.ToUpper(e.Term), e.Term+"x", e.Term[1:], "q"+e.Term[1:])
		}
		for _, word := range words {
			for far := range impl.FarMax + 1 {
				want := nearByLook(x, word, far)
				got := impl.Near(x, word, far)
				if !slices.Equal(got, want) {
					t.Errorf("%q, %d far: %q, not %q", word, far, got, want)
				}
				found += len(got)
			}
		}
	}
	if found < 1000 {
		t.Errorf("only %d were near", found)
	}
}

func TestP52NearOfATable(t *testing.T) {
	x := indexWith(t, sampleFields(), docOf(t, "a; body=bat cat rat; title=cab car"), docOf(t, "b; body=cat car the a of cats; title=cats at c"))
	for _, c := range []struct {
		word string
		far  int
		want string
	}{
		{"cat", 0, "cat"}, {"cat", 1, "cat at bat cab car rat"}, {"CaT", 1, "cat at bat cab car rat"}, {"cat", 2, "cat at bat cab car rat c"}, {"cat", 3, "cat at bat cab car rat c"}, {"cats", 0, ""}, {"cats", 1, "cat"}, {"", 0, ""}, {"", 1, "c"}, {"", 2, "c at"}, {"", 3, "c at bat cab car cat rat"}, {"xyz", 2, ""}, {"the", 0, ""}, {"ca", 1, "c cab car cat"}, {"ca ", 1, "cab car cat"},
		{"cat", -1, ""}, {"cat", 4, ""}, {"cat", math.MinInt, ""}, {"cat", math.MaxInt, ""}, {"cat\n", 3, ""}, {"\x1f", 3, ""}, {"c\x7f", 3, ""}, {"c\xe4t", 3, ""}, {strings.Repeat("c", 61), 3, ""}, {strings.Repeat("c", 60), 3, ""},
	} {
		if got := strings.Join(impl.Near(x, c.word, c.far), " "); got != c.want {
			t.Errorf("%q, %d far: %s", c.word, c.far, got)
		}
	}
	for what, x := range wrongIndexes(t) {
		for far := range 4 {
			if got := impl.Near(x, "red", far); len(got) != 0 {
				t.Errorf("%s: %q", what, got)
			}
		}
	}
}

func TestP84EachWordIsNearestToItself(t *testing.T) {
	for _, x := range sampleIndexes(t) {
		for _, e := range x.Entries {
			if got := impl.Near(x, e.Term, 0); !slices.Equal(got, []string{e.Term}) {
				t.Errorf("%s: %q", e.Term, got)
			}
			for far := 1; far <= impl.FarMax; far++ {
				if got := impl.Near(x, strings.ToUpper(e.Term), far); len(got) == 0 || got[0] != e.Term {
					t.Errorf("%s, %d far: %q", e.Term, far, got)
				}
			}
		}
	}
}

// Goroutines come in whatever order; what is near must not hang on it, nor may any of them stay.
func TestP52NearHangsOnNoGoroutine(t *testing.T) {
	var texts []string
	for i := range 30 {
		texts = append(texts, string([]byte{'a' + byte(i%26), 'a' + byte(i/26)}))
	}
	x := indexWith(t, []impl.Field{{Name: "a", Kind: impl.FieldText, Weight: 1}})
	for i := range impl.DocMax {
		x, _, _ = impl.IndexPut(x, impl.Doc{Key: "k" + strconv.Itoa(i), Cells: []impl.Cell{{Name: "a", Text: strings.Join(texts[i:i+20], " ")}}})
	}
	want := nearByLook(x, "aa", 2)
	before := runtime.NumGoroutine()
	var askers sync.WaitGroup
	for range 8 {
		askers.Go(func() {
			for range 50 {
				if got := impl.Near(x, "aa", 2); !slices.Equal(got, want) {
					t.Errorf("%q, not %q", got, want)
				}
			}
		})
	}
	askers.Wait()
	for range 100 {
		if runtime.NumGoroutine() <= before {
			return
		}
		time.Sleep(time.Millisecond)
	}
	t.Errorf("%d goroutines, %d before", runtime.NumGoroutine(), before)
}

// markedByLook puts marks around words by a pattern.
func markedByLook(s string, terms []string) string {
	if !textForm.MatchString(s) {
		return ""
	}
	return wordForm.ReplaceAllStringFunc(s, func(w string) string {
		for _, term := range terms {
			if term != "" && impl.Stem(w) == term {
				return "[" + w + "]"
			}
		}
		return w
	})
}

// termLists is terms of all sorts: none, empty, not sorted, told twice, with great letters, of many, no words.
func termLists() [][]string {
	return [][]string{
		nil, {}, {""}, {"", ""}, {"red"}, {"red", "apple"}, {"tree", "red", "apple", "red"}, {"Red"}, {"apples"}, {"reds", "trees"}, {"the"}, {"the", "a", "of", "to", "and", "an"}, {"red apple"}, {" red"}, {"-", "[", "\xff", "\n"}, {"s", "ss", "7", "x9"}, {"re"}, {"redd"}, {"verylongword"}, {"verylongwordindeed"}, {"", "red"}, {strings.Repeat("x", 999)}, {"z"}, {strings.Repeat("z", 12)},
	}
}

// markTexts is texts with words at both ends, side by side with one byte between, in brackets, with nothing that is looked for, without words.
func markTexts() []string {
	list := []string{
		"", " ", "-", "...", "red", "Red", "REDS", "red apple", "The Red apples, red-hot", " red ", "red red red", "red-red/red", "[red]", "[red", "red]", "(red)", "]red[", "redder", "reds redss", "the of a", "the red of the", "x9 9x 7", "apple", "tree apple red", "verylongwordindeed verylongwordsare", "red\"apple\"tree", "a=red;b=tree", "s ss sss ssss",
		strings.Repeat("z", 60), strings.Repeat("a ", 30), strings.Repeat("s ", 29) + "ss", strings.Repeat("red ", 15), strings.Repeat(" ", 60), "  one red apple of red trees.", "trees of red, one apple: red  ",
		strings.Repeat("z", 61), strings.Repeat("red ", 16), "red\n", "\tred", "red\x7f", "red \xc3\xa9", "\x00",
	}
	return append(list, sampleTexts()...)
}

func TestP53P54MarksOfATable(t *testing.T) {
	for _, c := range []struct {
		s     string
		terms []string
		want  string
	}{
		{"The Red apples, red-hot", []string{"red", "apple", ""}, "The [Red] [apples], [red]-hot"}, {"red", []string{"red"}, "[red]"}, {"red red", []string{"red"}, "[red] [red]"}, {"red-red", []string{"red"}, "[red]-[red]"}, {"  red", []string{"red"}, "  [red]"}, {"red  ", []string{"red"}, "[red]  "}, {"red apple", []string{"red"}, "[red] apple"}, {"red apple", []string{"apple"}, "red [apple]"},
		{"redder", []string{"red"}, "redder"}, {"REDS", []string{"red"}, "[REDS]"}, {"red", []string{"reds"}, "red"}, {"reds", []string{"reds"}, "reds"}, {"red", []string{"Red"}, "red"}, {"the a of", []string{"the", "a", "of", ""}, "the a of"}, {"red", nil, "red"}, {"", []string{""}, ""}, {"...", []string{"red"}, "..."}, {"[red]", []string{"red"}, "[[red]]"}, {"red apple", []string{"red apple"}, "red apple"}, {"tree red", []string{"tree", "red", "tree"}, "[tree] [red]"},
		{"verylongwordindeed", []string{"verylongword"}, "[verylongwordindeed]"}, {strings.Repeat("s ", 30), []string{"s"}, strings.Repeat("[s] ", 30)}, {strings.Repeat("z", 60), []string{strings.Repeat("z", 12)}, "[" + strings.Repeat("z", 60) + "]"},
		{strings.Repeat("s ", 30) + "s", []string{"s"}, ""}, {"red\n", []string{"red"}, ""}, {"\x1fred", []string{"red"}, ""}, {"red\x7f", []string{"red"}, ""}, {"caf\xc3\xa9", nil, ""},
	} {
		if got := impl.Mark(c.s, c.terms); got != c.want {
			t.Errorf("%q, %q: %q", c.s, c.terms, got)
		}
	}
}

func TestP53P54Marks(t *testing.T) {
	pair := regexp.MustCompile(`\[([^\[\]]*)\]`)
	for _, s := range markTexts() {
		for _, terms := range append(termLists(), impl.Terms(s)) {
			got := impl.Mark(s, terms)
			if want := markedByLook(s, terms); got != want {
				t.Errorf("%q, %q: %q, not %q", s, terms, got, want)
			}
			if strings.ContainsAny(s, "[]") || got == "" {
				continue
			}
			if strings.NewReplacer("[", "", "]", "").Replace(got) != s {
				t.Errorf("%q, %q: %q without its marks", s, terms, got)
			}
			for _, m := range pair.FindAllStringSubmatch(got, -1) {
				if stem := impl.Stem(m[1]); stem == "" || !slices.Contains(terms, stem) {
					t.Errorf("%q, %q: %q is marked", s, terms, m[1])
				}
			}
		}
		many := 0
		for _, term := range impl.Terms(s) {
			if term != "" {
				many++
			}
		}
		if got := impl.Mark(s, impl.Terms(s)); textForm.MatchString(s) && strings.Count(got, "[")-strings.Count(s, "[") != many {
			t.Errorf("%q: %q has not %d marks", s, got, many)
		}
	}
}

// snippedByLook looks at each part of a text that is so many words long, the last one first, so that the first is kept of those that are as good.
func snippedByLook(s string, terms []string, many int) string {
	spots := wordForm.FindAllStringIndex(s, -1)
	if !textForm.MatchString(s) || len(spots) == 0 || many < 1 {
		return ""
	}
	if many > len(spots) {
		many = len(spots)
	}
	best, most := "", 0
	for last := len(spots) - 1; last >= many-1; last-- {
		part := s[spots[last-many+1][0]:spots[last][1]]
		if n := soughtByLook(part, terms); n >= most {
			best, most = part, n
		}
	}
	return best
}

func soughtByLook(part string, terms []string) int {
	n := 0
	for _, term := range impl.Terms(part) {
		if term != "" && slices.Contains(terms, term) {
			n++
		}
	}
	return n
}

func TestP55PartsOfATable(t *testing.T) {
	text := " one red apple of red trees."
	both := []string{"red", "apple"}
	for _, c := range []struct {
		s     string
		terms []string
		many  int
		want  string
	}{
		{text, both, 1, "red"}, {text, both, 2, "red apple"}, {text, both, 3, "one red apple"}, {text, both, 4, "red apple of red"}, {text, both, 5, "one red apple of red"}, {text, both, 6, "one red apple of red trees"}, {text, both, 7, "one red apple of red trees"}, {text, both, math.MaxInt, "one red apple of red trees"}, {text, both, 0, ""}, {text, both, -1, ""}, {text, both, math.MinInt, ""},
		{text, []string{"tree"}, 1, "trees"}, {text, []string{"tree"}, 2, "red trees"}, {text, []string{"tree"}, 5, "red apple of red trees"}, {text, nil, 2, "one red"}, {text, []string{"of", ""}, 2, "one red"}, {text, []string{"zz"}, 1, "one"}, {text, []string{"tree", "red"}, 2, "red trees"}, {text, []string{"trees"}, 1, "one"},
		{"red a red", []string{"red"}, 1, "red"}, {"Red, red", []string{"red"}, 1, "Red"}, {"x red-red x", []string{"red"}, 2, "red-red"}, {"x y, red", []string{"red"}, 2, "y, red"}, {"  red  ", []string{"red"}, 3, "red"}, {"red...", nil, 1, "red"}, {"a b c d", []string{"b", "d"}, 1, "b"}, {"b  c...a; d", []string{"c", "d"}, 3, "c...a; d"},
		{"", both, 1, ""}, {"...", both, 1, ""}, {" ", both, 9, ""}, {strings.Repeat(".", 60), nil, 1, ""}, {"red\n", both, 1, ""}, {"\x7fred", both, 1, ""}, {strings.Repeat("a", 61), nil, 1, ""}, {strings.Repeat("a", 60), nil, 1, strings.Repeat("a", 60)},
	} {
		if got := impl.Snip(c.s, c.terms, c.many); got != c.want {
			t.Errorf("%q, %q, %d: %q", c.s, c.terms, c.many, got)
		}
	}
}

func TestP55P85Parts(t *testing.T) {
	for _, s := range markTexts() {
		words := wordForm.FindAllStringIndex(s, -1)
		for _, terms := range append(termLists(), impl.Terms(s)) {
			for _, many := range []int{-1, 0, 1, 2, 3, 4, 7, 15, 29, 30, 31, 1000} {
				got := impl.Snip(s, terms, many)
				if want := snippedByLook(s, terms, many); got != want {
					t.Errorf("%q, %q, %d: %q, not %q", s, terms, many, got, want)
				}
				if got != "" && (!strings.Contains(s, got) || len(impl.Words(got)) != min(many, len(words))) {
					t.Errorf("%q, %q, %d: %q", s, terms, many, got)
				}
			}
			if textForm.MatchString(s) && len(words) > 0 {
				if got := impl.Snip(s, terms, impl.TextMax/2); got != s[words[0][0]:words[len(words)-1][1]] {
					t.Errorf("%q: all of its words are not %q", s, got)
				}
			}
		}
	}
}

// The place of a part is told by texts in which no two parts are the same.
func TestP55TheFirstOfPartsThatAreAsGood(t *testing.T) {
	c := chanceOf(55)
	for range 3000 {
		var parts []string
		for i := range 1 + c.Intn(12) {
			parts = append(parts, c.oneOf("red", "Reds", "apple", "the", "pie", strconv.Itoa(i))+c.oneOf(" ", "-", ", "))
		}
		s := strings.Join(parts, "")
		s = s[:min(len(s), 60)]
		terms := [][]string{{"red"}, {"pie", "red"}, {"", "the", "apple"}}[c.Intn(3)]
		many := 1 + c.Intn(6)
		if got, want := impl.Snip(s, terms, many), snippedByLook(s, terms, many); got != want {
			t.Errorf("%q, %q, %d: %q, not %q", s, terms, many, got, want)
		}
	}
}
