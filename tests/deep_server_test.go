package tests

import (
	"strings"
	"testing"

	"loop.example/spandrel/impl"
)

// Answers of more than one value, as one.
type (
	hintsAnswer struct {
		Hints []impl.Hint
		Ok    bool
	}
	serverAnswer struct {
		Server impl.Server
		Ok     bool
	}
	toldAnswer struct {
		Server impl.Server
		Told   string
	}
	riseAnswer struct {
		Server impl.Server
		Size   int
		Ok     bool
	}
)

func TestHintsAreNewMemory(t *testing.T) {
	lists := append(hintsThatAreOk()[:20], wrongHints()[:14]...)
	for _, list := range lists {
		list = roomy(list)
		for _, s := range []string{"red", "red tree", "h3", "aa", "zz top", "", "Red"} {
			text := roomy(s)
			for _, weight := range []int{1, impl.NumMax, 0} {
				ownMemory(t, "HintAdd", func() hintsAnswer { got, ok := impl.HintAdd(list, text, weight); return hintsAnswer{got, ok} }, list, text)
			}
			for _, many := range []int{-1, 0, 1, 3, 99} {
				ownMemory(t, "HintFind", func() []impl.Hint { return impl.HintFind(list, text, many) }, list, text)
			}
		}
		ownMemory(t, "HintsOk", func() bool { return impl.HintsOk(list) }, list)
	}
	// The list that comes in is the beginning of a longer one.
	all := roomy(fullHints())
	for many := range len(all) + 1 {
		ownMemory(t, "HintAdd", func() hintsAnswer { got, ok := impl.HintAdd(all[:many], "gg", 1); return hintsAnswer{got, ok} }, all)
		ownMemory(t, "HintAdd", func() hintsAnswer { got, ok := impl.HintAdd(all[:many], "hh", 1); return hintsAnswer{got, ok} }, all)
	}
}

func TestMarksAreNewMemory(t *testing.T) {
	for _, s := range markTexts()[:40] {
		s = roomy(s)
		for _, terms := range append(termLists(), impl.Terms(s)) {
			terms = roomy(terms)
			ownMemory(t, "Mark", func() string { return impl.Mark(s, terms) }, s, terms)
			for _, many := range []int{0, 1, 2, 99} {
				ownMemory(t, "Snip", func() string { return impl.Snip(s, terms, many) }, s, terms)
			}
		}
	}
	notOk := copyIndex(mixedIndex(t))
	notOk.Next = 0
	for _, x := range []impl.Index{sharing(t), roomy(sharing(t)), roomy(mixedIndex(t)), roomy(notOk), roomy(indexWith(t, sampleFields(), sampleDocs(t)...)), roomy(indexWith(t, sampleFields()))} {
		for _, s := range []string{"red", "aple", "", "pie", "verylongword", "a\n"} {
			word := roomy(s)
			for _, far := range []int{-1, 0, 1, 3, 4} {
				ownMemory(t, "Near", func() []string { return impl.Near(x, word, far) }, x, word)
			}
		}
	}
}

// serverLines is lines of each command, those that are refused included.
func serverLines() []string {
	return []string{
		"put a title=red", "put new body=red pie;price=5;title=red pie", "put new ", "put A ", "put", "drop a", "drop zz", "hint 5 red apple", "hint 5 new one", "hint 0 x", "begin red", "begin ", "begin zz", "near aple", "near red", "find?*", "find?red", "rank?*", "up price?*", "down price?*", "tags color?*", "stat price?*", "bins price 5?*", "mark b body?pie", "mark b body?zz", "mark zz body?pie", "what", "", strings.Repeat("x", 401), "find?the", "\n",
	}
}

// sharingServer is a server that is ok and whose lists and texts share memory, as far as they can.
func sharingServer(t testing.TB) impl.Server {
	s := serverOf(t, "put aa body=red pie;price=5;title=red pie", "put bb body=red pie;price=5;title=red pie", "hint 3 red pie", "hint 2 red")
	s.Index = sharing(t)
	s.Hints[0].Text = s.Hints[1].Text[:3]
	if !impl.ServerOk(s) {
		t.Fatal(s)
	}
	return s
}

func TestServersAreNewMemory(t *testing.T) {
	notOk := roomy(serverOf(t, sampleLines()...))
	notOk.Index.Next++
	list := []impl.Server{sharingServer(t), roomy(sharingServer(t)), roomy(notOk)}
	for _, s := range sampleServers(t) {
		list = append(list, roomy(s))
	}
	for _, s := range list {
		for _, l := range serverLines() {
			line := roomy(l)
			ownMemory(t, "ServerDo "+line, func() toldAnswer { x, told := impl.ServerDo(s, line); return toldAnswer{x, told} }, s, line)
		}
		ownMemory(t, "ServerOk", func() bool { return impl.ServerOk(s) }, s)
		ownMemory(t, "ServerText", func() string { return impl.ServerText(s) }, s)
		text := roomy(impl.ServerText(s))
		fields := roomy(s.Index.Fields)
		for _, cut := range []int{0, len(text) / 2, len(text)} {
			torn := text[:cut]
			ownMemory(t, "ServerRise", func() riseAnswer {
				x, size, ok := impl.ServerRise(fields, torn)
				return riseAnswer{x, size, ok}
			}, fields, text)
		}
		wrong := roomy(text + "6 drop z\n")
		ownMemory(t, "ServerRise", func() riseAnswer { x, size, ok := impl.ServerRise(fields, wrong); return riseAnswer{x, size, ok} }, fields, wrong)
		ownMemory(t, "ServerNew", func() serverAnswer { x, ok := impl.ServerNew(fields); return serverAnswer{x, ok} }, fields)
	}
}

func TestSessionsAreNewMemory(t *testing.T) {
	fields := roomy(sampleFields())
	for _, lines := range [][]string{exampleLines(), serverLines(), nil, sampleLines(), append(exampleLines(), exampleLines()...)} {
		lines = roomy(lines)
		ownMemory(t, "ServerPlay", func() toldAnswer { x, told := impl.ServerPlay(fields, lines); return toldAnswer{x, told} }, fields, lines)
		ownMemory(t, "ServerPlay of no fields", func() toldAnswer { x, told := impl.ServerPlay(nil, lines); return toldAnswer{x, told} }, lines)
		ownMemory(t, "Session", func() string { return impl.Session(lines) }, lines)
	}
}
