package tests

import (
	"math"
	"slices"
	"strings"
	"testing"

	"loop.example/g02075/impl"
)

// Promise 16, as far as chapter 6 goes: lists of words can be parsed from their string format.
// Promise 4, as far as chapter 6 goes: a flower reads each of its words as a loop at the base, and no word that they do not generate.
// The wanted results are computed here in the plainest way, from the definitions of the chapter.

const maxWords = 6

func wantTotal(l [][]int) int {
	return len(slices.Concat(l...))
}

func wantAreWords(rank int, l [][]int) bool {
	if !slices.Contains([]int{1, 2, 3}, rank) || len(l) >= 7 || wantTotal(l) >= 40 {
		return false
	}
	for _, w := range l {
		if !wantIsWord(rank, w) {
			return false
		}
	}
	return true
}

// wantAddPath lists all vertices of the path first.
func wantAddPath(g graph, u int, w []int, v int) (graph, bool) {
	n := len(w)
	if !wantIsGraph(g) || !isThere(g, u) || !isThere(g, v) || n == 0 || !wantIsWord(g.Rank, w) || g.Size+n >= 42 || len(g.Edges)+n >= 121 {
		return g, false
	}
	vertices := []int{u}
	for i := range n - 1 {
		vertices = append(vertices, g.Size+i)
	}
	vertices = append(vertices, v)
	larger := graphOf(g.Rank, g.Size+n-1, slices.Clone(g.Edges)...)
	for i, letter := range w {
		e := edge(vertices[i], letter, vertices[i+1])
		if letter < 0 {
			e = edge(vertices[i+1], -letter, vertices[i])
		}
		if !slices.Contains(larger.Edges, e) {
			larger.Edges = append(larger.Edges, e)
		}
	}
	slices.SortFunc(larger.Edges, wantCompareEdges)
	return larger, true
}

func wantFlower(rank int, l [][]int) (graph, bool) {
	if !wantAreWords(rank, l) {
		return graph{}, false
	}
	g := graphOf(rank, 1)
	for _, w := range l {
		g, _ = wantAddPath(g, 0, w, 0)
	}
	return g, true
}

func wantFormatWords(l [][]int) string {
	if len(l) == 0 {
		return "none"
	}
	s := ""
	for _, w := range l {
		if wantFormatWord(w) == "" {
			return ""
		}
		s += "," + wantFormatWord(w)
	}
	return s[1:]
}

// wantParseWords takes any text apart, and holds what it finds against the format.
func wantParseWords(rank int, s string) ([][]int, bool) {
	var l [][]int
	if s != "none" {
		l = words(s)
	}
	if wantFormatWords(l) != s || !wantAreWords(rank, l) {
		return nil, false
	}
	return l, true
}

// words writes a list of words as in FormatWords, spelt out so that it does not depend on ParseWords.
func words(s string) [][]int {
	var l [][]int
	for _, part := range strings.Split(s, ",") {
		l = append(l, word(part))
	}
	return l
}

// wordLists returns all lists of up to most of some words.
func wordLists(words [][]int, most int) [][][]int {
	places := make([]int, len(words))
	for i := range places {
		places[i] = i
	}
	var all [][][]int
	for _, places := range listsOver(places, most) {
		var l [][]int
		for _, i := range places {
			l = append(l, words[i])
		}
		all = append(all, l)
	}
	return all
}

// longWord returns a reduced word of any length.
func longWord(n int) []int {
	return slices.Repeat([]int{1, 2, -1, 2}, n/4+1)[:n]
}

// invalidWords returns lists of letters that are no words of rank 2, in each way.
func invalidWords() [][]int {
	l := [][]int{word("aA"), word("Bb"), word("abBa"), word("aabBab"), longWord(maxWord + 1), longWord(200), append(longWord(maxWord-1), 1)}
	for _, letter := range strangeLetters(2) {
		l = append(l, []int{letter}, []int{1, letter}, []int{letter, 2}, []int{1, letter, 1})
	}
	return l
}

// limitLists returns lists with the most words or the most letters, some of them with one too many.
func limitLists() [][][]int {
	var l [][][]int
	for n := range maxWords + 3 {
		l = append(l, slices.Repeat([][]int{nil}, n), slices.Repeat([][]int{{1}}, n), slices.Repeat([][]int{{-1, 2}}, n), slices.Repeat([][]int{longWord(5)}, n))
	}
	for total := 38; total <= 42; total++ {
		for _, n := range []int{total - 25, total - 24, 19, 20, 24, 25} {
			l = append(l, [][]int{longWord(n), longWord(total - n)})
		}
		l = append(l,
			[][]int{longWord(13), longWord(13), longWord(total - 26)},
			[][]int{nil, longWord(24), nil, longWord(14), nil, longWord(total - 38)},
			[][]int{longWord(7), longWord(7), longWord(7), longWord(7), longWord(7), longWord(total - 35)},
			[][]int{longWord(8), longWord(8), longWord(8), longWord(8), longWord(total - 32), nil},
		)
	}
	return append(l, [][]int{longWord(23)}, [][]int{longWord(24)}, [][]int{longWord(25)}, [][]int{longWord(39)}, [][]int{longWord(40)})
}

// sampleLists returns lists of words, some of which are not valid.
func sampleLists() [][][]int {
	l := slices.Concat(wordLists(reducedWords(2, 2), 2), wordLists(reducedWords(3, 1), 3), wordLists(reducedWords(1, 3), 3), limitLists())
	for _, w := range invalidWords() {
		l = append(l, [][]int{w}, [][]int{{1}, w}, [][]int{w, {-1}}, [][]int{{1}, w, nil, {2, 1}})
	}
	for _, s := range []string{"abA,bb", "abc,Abc,aBC", "aba,bab,aab,bba", "ab,ab", "ab,BA", "aa,b,aa", "abAB,a,b,a,1,B", "cabC,cc"} {
		l = append(l, words(s))
	}
	return l
}

// verticesAfter returns all vertices to which a list of letters leads from v, also in a graph that is not folded.
func verticesAfter(g graph, v int, w []int) []int {
	at := []int{v}
	for _, letter := range w {
		var next []int
		for _, u := range at {
			next = append(next, wantSteps(g, u, letter)...)
		}
		slices.Sort(next)
		at = slices.Compact(next)
	}
	return at
}

func checkPathAdded(t *testing.T, g graph, u int, w []int, v int) {
	t.Helper()
	got, ok := impl.AddPath(g, u, w, v)
	want, wantOk := wantAddPath(g, u, w, v)
	checkGraph(t, got, ok, want, wantOk, "AddPath", g, u, w, v)
	if u == 0 && v == 0 {
		got, ok = impl.AddPetal(g, w)
		checkGraph(t, got, ok, want, wantOk, "AddPetal", g, w)
	}
}

func checkFlower(t *testing.T, rank int, l [][]int) {
	t.Helper()
	got, ok := impl.FlowerOf(rank, l)
	want, wantOk := wantFlower(rank, l)
	checkGraph(t, got, ok, want, wantOk, "FlowerOf", rank, l)
}

func checkParseWords(t *testing.T, rank int, s string, want [][]int, wantOk bool) {
	t.Helper()
	if got, ok := impl.ParseWords(rank, s); !equalLists(got, want) || ok != wantOk {
		t.Errorf("ParseWords(%d, %q) = %v, %t, want %v, %t", rank, s, got, ok, want, wantOk)
	}
}

func TestMaxWords(t *testing.T) {
	if impl.MaxWords != maxWords {
		t.Errorf("MaxWords = %d", impl.MaxWords)
	}
}

func TestAreWords(t *testing.T) {
	for _, rank := range sampleRanks() {
		for _, l := range sampleLists() {
			if got, want := impl.AreWords(rank, l), wantAreWords(rank, l); got != want {
				t.Errorf("AreWords(%d, %v) = %t", rank, l, got)
			}
		}
	}
}

func TestAreWordsExamples(t *testing.T) {
	for _, c := range []struct {
		rank int
		l    [][]int
		want bool
	}{
		{1, nil, true}, {2, nil, true}, {3, nil, true}, {0, nil, false}, {4, nil, false}, {-1, nil, false}, {math.MinInt, nil, false}, {math.MaxInt, nil, false},
		{1, words("1"), true}, {0, words("1"), false}, {4, words("1"), false}, {2, words("1,1,1,1,1,1"), true}, {2, words("1,1,1,1,1,1,1"), false},
		{2, words("abA,bb"), true}, {1, words("abA,bb"), false}, {3, words("abA,bb"), true}, {2, words("a,c"), false}, {2, words("c,a"), false}, {4, words("a"), false},
		{2, words("1,a"), true}, {2, words("a,1"), true}, {2, words("a,1,b"), true}, {2, words("1,aA"), false}, {2, words("aA,1"), false}, {2, words("a,a,a,a,a,a"), true},
		{2, words("a,b,A,B,ab,ba"), true}, {2, words("a,b,A,B,ab,ba,1"), false}, {2, words("a,b,A,B,ab,ba,aA"), false},
		{2, [][]int{longWord(24)}, true}, {2, [][]int{longWord(25)}, false}, {2, [][]int{{1}, longWord(25)}, false}, {2, [][]int{longWord(24), longWord(15)}, true},
		{2, [][]int{longWord(24), longWord(16)}, false}, {2, [][]int{longWord(20), longWord(20)}, false}, {2, [][]int{longWord(20), longWord(19)}, true},
		{2, [][]int{longWord(15), longWord(25)}, false}, {2, [][]int{{0}}, false}, {2, [][]int{{1}, {2}, {math.MinInt}}, false},
		{2, make([][]int, 100000), false}, {2, [][]int{make([]int, 100000)}, false},
	} {
		if got := impl.AreWords(c.rank, c.l); got != c.want {
			t.Errorf("AreWords(%d, %v) = %t", c.rank, c.l, got)
		}
	}
}

func TestTotalLength(t *testing.T) {
	for _, l := range sampleLists() {
		if got := impl.TotalLength(l); got != wantTotal(l) {
			t.Errorf("TotalLength(%v) = %d, want %d", l, got, wantTotal(l))
		}
	}
	for _, c := range []struct {
		l    [][]int
		want int
	}{
		{nil, 0}, {[][]int{}, 0}, {[][]int{nil}, 0}, {[][]int{{}, nil, {}}, 0}, {words("abA,bb"), 5}, {words("1,a,1"), 1}, {words("aA,Bb"), 4},
		{[][]int{{0}, {math.MinInt, 9}}, 3}, {slices.Repeat([][]int{make([]int, 1000)}, 1000), 1000000},
	} {
		if got := impl.TotalLength(c.l); got != c.want {
			t.Errorf("TotalLength of %d words = %d, want %d", len(c.l), got, c.want)
		}
	}
}

// All words of up to three letters, and lists that are no words, between any two vertices.
func TestAddPath(t *testing.T) {
	lists := append(reducedWords(2, 3), word("c"), word("aC"), word("aA"), word("abB"), word("bBa"), []int{0}, []int{1, 0}, []int{math.MinInt}, longWord(24), longWord(25))
	for _, g := range slices.Concat(allGraphs(1, 1), allGraphs(2, 1), allGraphs(3, 1), allGraphs(1, 2), everyNth(allGraphs(2, 2), 3), everyNth(allGraphs(1, 3), 23)) {
		for _, w := range lists {
			for u := range g.Size {
				for v := range g.Size {
					checkPathAdded(t, g, u, w, v)
				}
			}
		}
	}
}

func TestAddPathExamples(t *testing.T) {
	flower := graphOf(2, 4, edge(0, 1, 1), edge(0, 1, 2), edge(0, 2, 3), edge(1, 2, 2), edge(3, 2, 0))
	for _, c := range []struct {
		g    graph
		u    int
		w    string
		v    int
		want string
	}{
		{graphOf(1, 1), 0, "a", 0, "1 1 0a0"},
		{graphOf(1, 1), 0, "A", 0, "1 1 0a0"},
		{graphOf(2, 1), 0, "B", 0, "2 1 0b0"},
		{graphOf(2, 1), 0, "ab", 0, "2 2 0a1 1b0"},
		{graphOf(2, 1), 0, "AB", 0, "2 2 0b1 1a0"},
		{graphOf(2, 1), 0, "aB", 0, "2 2 0a1 0b1"},
		{graphOf(2, 1), 0, "Ab", 0, "2 2 1a0 1b0"},
		{graphOf(2, 1), 0, "aa", 0, "2 2 0a1 1a0"},
		{graphOf(2, 1), 0, "AA", 0, "2 2 0a1 1a0"},
		{graphOf(3, 1), 0, "abAc", 0, "3 4 0a1 1b2 3a2 3c0"},
		{graphOf(3, 1), 0, "CaBA", 0, "3 4 0a3 1a2 1c0 3b2"},
		{graphOf(2, 3), 0, "a", 2, "2 3 0a2"},
		{graphOf(2, 3), 0, "A", 2, "2 3 2a0"},
		{graphOf(2, 3), 2, "a", 0, "2 3 2a0"},
		{graphOf(2, 3), 2, "A", 0, "2 3 0a2"},
		{graphOf(2, 3), 1, "bb", 2, "2 4 1b3 3b2"},
		{graphOf(2, 3), 2, "bbb", 1, "2 5 2b3 3b4 4b1"},
		{graphOf(2, 3), 2, "BBB", 1, "2 5 1b4 3b2 4b3"},
		{graphOf(2, 3), 1, "BB", 1, "2 4 1b3 3b1"},
		{graphOf(2, 10), 9, "aab", 2, "2 12 9a10 10a11 11b2"},
		{graphOf(2, 10), 2, "BAA", 9, "2 12 9a11 10b2 11a10"},
		{flower, 1, "Ab", 3, "2 5 0a1 0a2 0b3 1b2 3b0 4a1 4b3"},
		{flower, 3, "Ba", 1, "2 5 0a1 0a2 0b3 1b2 3b0 4a1 4b3"},
		{flower, 2, "aB", 2, "2 5 0a1 0a2 0b3 1b2 2a4 2b4 3b0"},
		{flower, 0, "a", 3, "2 4 0a1 0a2 0a3 0b3 1b2 3b0"},
		{flower, 0, "a", 2, "2 4 0a1 0a2 0b3 1b2 3b0"},
	} {
		got, ok := impl.AddPath(c.g, c.u, word(c.w), c.v)
		if s := wantFormatGraph(got); s != c.want || !ok {
			t.Errorf("AddPath(%v, %d, %s, %d) = %s, %t, want %s", c.g, c.u, c.w, c.v, s, ok, c.want)
		}
	}
}

// The new path leads from u to v through all new vertices, and nothing else is added or lost.
func TestPathLeadsThroughNewVertices(t *testing.T) {
	for _, g := range slices.Concat(everyNth(allGraphs(2, 2), 5), limitGraphs()[:2], largeFoldedGraphs()[6:9], unfoldedGraphs()[:9]) {
		for _, w := range append(reducedWords(g.Rank, 3), longWord(24), longWord(10)) {
			for _, u := range []int{0, g.Size - 1} {
				v := len(w) % g.Size
				got, ok := impl.AddPath(g, u, w, v)
				if !ok {
					continue
				}
				kept := slices.DeleteFunc(slices.Clone(g.Edges), func(e impl.Edge) bool { return !slices.Contains(got.Edges, e) })
				isShort := len(w) == 1 && len(got.Edges) == len(g.Edges) && slices.Contains(wantSteps(g, u, w[0]), v)
				if len(kept) != len(g.Edges) || got.Size != g.Size+len(w)-1 || len(got.Edges) != len(g.Edges)+len(w) && !isShort || !wantIsGraph(got) {
					t.Errorf("AddPath(%v, %d, %v, %d) = %v", g, u, w, v, got)
				}
				at := u
				for i, letter := range w {
					next := g.Size + i
					if i == len(w)-1 {
						next = v
					}
					if !slices.Contains(wantSteps(got, at, letter), next) {
						t.Errorf("letter %d of %v does not lead from %d to %d in %v", i, w, at, next, got)
					}
					at = next
				}
				for n := g.Size; n < got.Size; n++ {
					if wantDegree(got, n) != 2 {
						t.Errorf("the vertex %d of AddPath(%v, %d, %v, %d) = %v has the degree %d", n, g, u, w, v, got, wantDegree(got, n))
					}
				}
			}
		}
	}
}

// A path of one letter along an edge that is there already changes nothing, and is added all the same.
func TestPathAlongAnEdge(t *testing.T) {
	for _, g := range slices.Concat(smallGraphs(), limitGraphs(), unfoldedGraphs(), largeFoldedGraphs()) {
		for _, e := range g.Edges {
			isAdded := len(g.Edges) < maxEdges
			got, ok := impl.AddPath(g, e.From, []int{e.Letter}, e.To)
			checkGraph(t, got, ok, g, isAdded, "AddPath along an edge", g, e)
			got, ok = impl.AddPath(g, e.To, []int{-e.Letter}, e.From)
			checkGraph(t, got, ok, g, isAdded, "AddPath back along an edge", g, e)
			if e.From != e.To {
				checkPathAdded(t, g, e.To, []int{e.Letter}, e.From)
				checkPathAdded(t, g, e.From, []int{-e.Letter}, e.To)
			}
		}
	}
}

// Two letters or more never share an edge with what is there, so that the same petal can be added twice.
func TestPetalTwice(t *testing.T) {
	for _, w := range append(reducedWords(2, 4), longWord(12)) {
		once, _ := impl.AddPetal(graphOf(2, 1), w)
		twice, ok := impl.AddPetal(once, w)
		vertices, edges := 2*len(w)-1, 2*len(w)
		if len(w) < 2 {
			vertices, edges = 1, len(w)
		}
		if ok != (len(w) > 0) || twice.Size != vertices || len(twice.Edges) != edges {
			t.Errorf("AddPetal of %v twice = %v, %t", w, twice, ok)
		}
	}
}

// Paths whose new vertices are as many as there may be, and one more or less.
func TestAddPathMostVertices(t *testing.T) {
	for _, size := range []int{1, 2, 15, 16, 17, 18, 20, 30, 37, 38, 39, 40} {
		for n := 1; n <= maxWord+1; n++ {
			for _, g := range []graph{graphOf(2, size), ringGraph(size, 1, 0)} {
				w := longWord(n)
				checkPathAdded(t, g, 0, w, 0)
				checkPathAdded(t, g, size-1, w, 0)
				checkPathAdded(t, g, 0, wantInvert(w), size-1)
				want := n <= maxWord && size+n-1 <= maxVertices
				if got, ok := impl.AddPath(g, 0, w, 0); ok != want || ok && got.Size != size+n-1 || !ok && got.Size != size {
					t.Errorf("AddPath of %d letters to %d vertices: %d, %t", n, size, got.Size, ok)
				}
			}
		}
	}
}

// Paths whose edges are as many as there may be, and one more or less. An edge that is there already counts for the limit.
func TestAddPathMostEdges(t *testing.T) {
	all := edgesOfAll(3, 10)
	for edges := 92; edges <= maxEdges; edges++ {
		g := graphOf(3, 10, all[:edges]...)
		for n := 1; n <= maxWord+1; n++ {
			w := longWord(n)
			checkPathAdded(t, g, 0, w, 0)
			checkPathAdded(t, g, 9, w, 8)
			checkPathAdded(t, g, 8, wantInvert(w), 9)
			want := n <= maxWord && edges+n <= maxEdges
			if got, ok := impl.AddPath(g, 9, w, 9); ok != want || ok && len(got.Edges) != edges+n || !ok && len(got.Edges) != edges {
				t.Errorf("AddPath of %d letters to %d edges: %d, %t", n, edges, len(got.Edges), ok)
			}
		}
		// The edge from 0 to 0 is there already.
		got, ok := impl.AddPetal(g, []int{1})
		checkGraph(t, got, ok, g, edges < maxEdges, "AddPetal along a loop", edges)
	}
	for _, g := range append(limitGraphs(), largeFoldedGraphs()...) {
		for _, w := range append(reducedWords(1, 2), longWord(3), longWord(24)) {
			checkPathAdded(t, g, 0, w, 0)
			checkPathAdded(t, g, g.Size-1, w, 0)
			checkPathAdded(t, g, 1, w, g.Size-1)
		}
	}
}

// Petals are added one after the other until the next one would have too many vertices.
func TestAddPetalAgainAndAgain(t *testing.T) {
	g := graphOf(3, 1)
	for i := range 20 {
		want, wantOk := wantAddPath(g, 0, word("abAb"), 0)
		got, ok := impl.AddPetal(g, word("abAb"))
		checkGraph(t, got, ok, want, wantOk, "AddPetal, again and again", g)
		if ok != (i < 13) {
			t.Errorf("petal number %d is added: %t", i+1, ok)
		}
		g = got
	}
	if g.Size != maxVertices || len(g.Edges) != 52 {
		t.Errorf("the flower has %d vertices and %d edges", g.Size, len(g.Edges))
	}
}

// A path of 15 letters reaches both limits, one of them or none, and is refused beyond either of them.
func TestAddPathMostVerticesAndEdges(t *testing.T) {
	all, w := edgesOfAll(3, 10), longWord(15)
	for _, size := range []int{25, 26, 27} {
		for _, edges := range []int{104, 105, 106} {
			g := graphOf(3, size, all[:edges]...)
			checkPathAdded(t, g, 0, w, 0)
			if _, ok := impl.AddPath(g, 1, w, 9); ok != (size <= 26 && edges <= 105) {
				t.Errorf("AddPath to %d vertices and %d edges is %t", size, edges, ok)
			}
		}
	}
}

// checkNoPath expects the fixed results of AddPath and AddPetal: the graph unchanged and false.
func checkNoPath(t *testing.T, g graph, u int, w []int, v int) {
	t.Helper()
	got, ok := impl.AddPath(g, u, w, v)
	checkGraph(t, got, ok, g, false, "AddPath", g, u, w, v)
	if u == 0 && v == 0 {
		got, ok = impl.AddPetal(g, w)
		checkGraph(t, got, ok, g, false, "AddPetal", g, w)
	}
}

func TestPathsInGraphsThatAreNotValid(t *testing.T) {
	for _, g := range append(invalidGraphs(), graphOf(2, 41), graphOf(2, 1, edge(0, 1, 1), edge(1, 1, 0))) {
		for _, w := range [][]int{nil, {1}, {-1}, {2}, word("ab"), word("Ba"), word("abA"), longWord(24), {0}, {math.MinInt}, word("aA")} {
			for _, u := range append(strangeVertices(g), 0, 1, 2) {
				checkNoPath(t, g, u, w, 0)
				checkNoPath(t, g, 0, w, u)
				checkNoPath(t, g, u, w, u)
			}
		}
	}
}

func TestPathsBetweenVerticesThatAreNotThere(t *testing.T) {
	for _, g := range slices.Concat(everyNth(smallGraphs(), 7), largeFoldedGraphs(), unfoldedGraphs()) {
		for _, v := range append(strangeVertices(g), -g.Size, g.Size+2) {
			if isThere(g, v) {
				continue
			}
			// The numbers behind the last vertex are those of the new ones, which are not there before.
			for _, w := range [][]int{{1}, {-1}, word("aa"), word("AAA"), {2, 1}, nil, {0}} {
				checkNoPath(t, g, v, w, 0)
				checkNoPath(t, g, 0, w, v)
				checkNoPath(t, g, v, w, v)
				checkNoPath(t, g, g.Size-1, w, v)
			}
		}
	}
}

func TestPathsOfListsThatAreNoWords(t *testing.T) {
	for _, g := range []graph{graphOf(2, 1), graphOf(2, 3), graphOf(2, 3, edge(0, 1, 1), edge(1, 2, 2)), ringGraph(12, 4, 6), graphOf(1, 2)} {
		for _, w := range append(invalidWords(), nil, []int{}, make([]int, 100000), slices.Repeat([]int{1}, 100000)) {
			for _, u := range []int{0, g.Size - 1} {
				checkNoPath(t, g, 0, w, u)
				checkNoPath(t, g, u, w, 0)
			}
		}
	}
	// What is a word of one rank is none of a lower one.
	for _, s := range []string{"b", "B", "ab", "aBa", "c", "C", "aCa"} {
		checkNoPath(t, graphOf(1, 1), 0, word(s), 0)
		if strings.ContainsAny(s, "cC") {
			checkNoPath(t, graphOf(2, 1), 0, word(s), 0)
		}
		if _, ok := impl.AddPetal(graphOf(3, 1), word(s)); !ok {
			t.Errorf("AddPetal of %s in rank 3 is false", s)
		}
	}
}

func TestFlowerOf(t *testing.T) {
	for _, rank := range []int{math.MinInt, -1, 0, 1, 2, 3, 4, 1<<32 + 1, math.MaxInt} {
		for _, l := range sampleLists() {
			checkFlower(t, rank, l)
		}
	}
	for _, l := range wordLists(reducedWords(2, 1), maxWords) {
		checkFlower(t, 2, l)
	}
}

func TestFlowerOfExamples(t *testing.T) {
	for _, c := range []struct {
		rank int
		l    string
		want string
	}{
		{2, "abA,bb", "2 4 0a1 0a2 0b3 1b2 3b0"},
		{2, "bb,abA", "2 4 0a2 0a3 0b1 1b0 2b3"},
		{1, "a", "1 1 0a0"},
		{1, "A", "1 1 0a0"},
		{2, "a,b", "2 1 0a0 0b0"},
		{2, "b,A", "2 1 0a0 0b0"},
		{2, "a,a", "2 1 0a0"},
		{2, "a,A,a", "2 1 0a0"},
		{2, "aa,aa", "2 3 0a1 0a2 1a0 2a0"},
		{2, "ab,BA", "2 3 0a1 0a2 1b0 2b0"},
		{2, "a,ab", "2 2 0a0 0a1 1b0"},
		{2, "ab,a", "2 2 0a0 0a1 1b0"},
		{3, "abc,C", "3 3 0a1 0c0 1b2 2c0"},
		{3, "Cab", "3 3 1a2 1c0 2b0"},
	} {
		got, ok := impl.FlowerOf(c.rank, words(c.l))
		if s := wantFormatGraph(got); s != c.want || !ok {
			t.Errorf("FlowerOf(%d, %s) = %s, %t, want %s", c.rank, c.l, s, ok, c.want)
		}
	}
	for _, c := range []struct {
		rank int
		l    [][]int
	}{
		{1, words("ab")}, {2, words("a,c")}, {2, words("c,a")}, {0, words("a")}, {4, words("a")}, {0, nil}, {4, nil}, {-1, words("1")}, {2, words("aA")}, {2, words("a,abBA")},
		{2, words("1,1,1,1,1,1,1")}, {2, words("a,b,a,b,a,b,a")}, {2, [][]int{longWord(25)}}, {2, [][]int{longWord(24), longWord(16)}}, {2, [][]int{{1}, {0}}}, {2, [][]int{{math.MinInt}}},
		{2, make([][]int, 100000)}, {2, [][]int{slices.Repeat([]int{1}, 100000)}},
	} {
		got, ok := impl.FlowerOf(c.rank, c.l)
		checkGraph(t, got, ok, graph{}, false, "FlowerOf", c.rank, c.l)
	}
}

// The edge case of this chapter: an empty word among the generators, as the first one, in the middle, as the last one, and nothing else.
func TestEmptyWordsAmongGenerators(t *testing.T) {
	for _, s := range []string{"a", "B", "ab", "a,b", "abA,bb", "aa,aa", "a,A,ab", "ab,BA,c", "abc,b,Ca,aaa"} {
		l := words(s)
		want, _ := impl.FlowerOf(3, l)
		for i := range len(l) + 1 {
			for _, empty := range [][][]int{{nil}, {{}}, {nil, {}}} {
				with := slices.Concat(l[:i], empty, l[i:])
				got, ok := impl.FlowerOf(3, with)
				checkGraph(t, got, ok, want, true, "FlowerOf", with)
				if !impl.AreWords(3, with) || impl.TotalLength(with) != impl.TotalLength(l) || impl.EqualWordLists(with, l) || impl.EqualWordLists(l, with) {
					t.Errorf("%v is not %v with empty words", with, l)
				}
				text := wantFormatWords(with)
				if got := impl.FormatWords(with); got != text || !slices.Contains(strings.Split(text, ","), "1") {
					t.Errorf("FormatWords(%v) = %q", with, got)
				}
				checkParseWords(t, 3, text, with, true)
			}
		}
	}
	for rank := 1; rank <= 3; rank++ {
		for n := range maxWords + 2 {
			l := make([][]int, n)
			got, ok := impl.FlowerOf(rank, l)
			if n <= maxWords {
				checkGraph(t, got, ok, graphOf(rank, 1), true, "FlowerOf", rank, l)
				checkParseWords(t, rank, wantFormatWords(l), l, true)
			} else {
				checkGraph(t, got, ok, graph{}, false, "FlowerOf", rank, l)
				checkParseWords(t, rank, wantFormatWords(l), nil, false)
			}
		}
	}
	for _, w := range [][]int{nil, {}} {
		checkNoPath(t, graphOf(2, 1), 0, w, 0)
		checkNoPath(t, graphOf(2, 2, edge(0, 1, 1)), 0, w, 1)
		checkNoPath(t, graphOf(2, 2, edge(0, 1, 1)), 1, w, 1)
	}
}

// No valid list is too much for a flower: the longest ones have at most one vertex for each letter.
func TestFlowersAtLimits(t *testing.T) {
	for _, l := range limitLists() {
		checkFlower(t, 2, l)
	}
	for _, c := range []struct {
		l        [][]int
		vertices int
		edges    int
	}{
		{[][]int{longWord(24), longWord(15)}, 38, 39},
		{[][]int{longWord(19), longWord(20)}, 38, 39},
		{[][]int{longWord(7), longWord(7), longWord(7), longWord(7), longWord(7), longWord(4)}, 34, 39},
		{[][]int{longWord(24), nil, longWord(14), {1}, nil, nil}, 37, 39},
		{[][]int{longWord(24)}, 24, 24},
		{slices.Repeat([][]int{longWord(6)}, 6), 31, 36},
	} {
		got, ok := impl.FlowerOf(2, c.l)
		if !ok || got.Size != c.vertices || len(got.Edges) != c.edges {
			t.Errorf("FlowerOf(%v) has %d vertices and %d edges, %t", c.l, got.Size, len(got.Edges), ok)
		}
	}
}

// A flower reads each of its words, and their inverses, as loops at the base, through vertices that no other petal has.
func TestFlowersReadTheirWords(t *testing.T) {
	for _, l := range sampleLists() {
		for rank := 1; rank <= 3; rank++ {
			g, ok := impl.FlowerOf(rank, l)
			if !ok {
				continue
			}
			if !wantIsGraph(g) || g.Rank != rank || len(wantReached(g, 0)) != g.Size {
				t.Errorf("FlowerOf(%d, %v) = %v", rank, l, g)
			}
			for _, w := range l {
				if !slices.Contains(verticesAfter(g, 0, w), 0) || !slices.Contains(verticesAfter(g, 0, wantInvert(w)), 0) {
					t.Errorf("FlowerOf(%d, %v) does not read %v", rank, l, w)
				}
				if end, ok := impl.WalkWord(g, 0, w); wantIsFolded(g) && (end != 0 || !ok) {
					t.Errorf("FlowerOf(%d, %v) reads %v to %d, %t", rank, l, w, end, ok)
				}
			}
			for v := 1; v < g.Size; v++ {
				if wantDegree(g, v) != 2 {
					t.Errorf("the vertex %d of FlowerOf(%d, %v) = %v has the degree %d", v, rank, l, g, wantDegree(g, v))
				}
			}
		}
	}
}

// In a folded flower, the loops at the base are the products of the words and their inverses, since it has no others.
func TestFoldedFlowersReadNoOtherWords(t *testing.T) {
	for _, s := range []string{"none", "1", "a", "A", "B", "aa", "ab", "abab", "aabb", "a,b", "a,B,1", "a,bb", "A,bb,cc", "aB,Ab", "aa,bb", "ab,cc", "aba,bab", "abc,ba", "aab,baa", "abcb,bcc,ca"} {
		var l [][]int
		if s != "none" {
			l = words(s)
		}
		g, ok := impl.FlowerOf(3, l)
		if !ok || !impl.IsFolded(g) {
			t.Errorf("FlowerOf(3, %s) = %v is not folded", s, g)
		}
		products := map[string]bool{}
		factors := slices.Clone(l)
		for _, w := range l {
			factors = append(factors, wantInvert(w))
		}
		for _, choice := range wordLists(factors, 4) {
			products[wantFormatWord(wantProduct(choice...))] = true
		}
		for _, w := range reducedWords(3, 4) {
			end, ok := impl.WalkWord(g, 0, w)
			if isLoop := ok && end == 0; isLoop != products[wantFormatWord(w)] {
				t.Errorf("FlowerOf(3, %s) reads %v as a loop: %t", s, w, isLoop)
			}
		}
	}
}

func TestFormatWords(t *testing.T) {
	lists := sampleLists()
	for _, w := range listsOver(append(strangeLetters(3), 1, -3), 2) {
		lists = append(lists, [][]int{w}, [][]int{{1}, w}, [][]int{w, {2}}, [][]int{nil, w, nil})
	}
	for _, l := range lists {
		if got, want := impl.FormatWords(l), wantFormatWords(l); got != want {
			t.Errorf("FormatWords(%v) = %q, want %q", l, got, want)
		}
	}
}

// FormatWords accepts any lists, also those that are no words or too many.
func TestFormatWordsExamples(t *testing.T) {
	for _, c := range []struct {
		l    [][]int
		want string
	}{
		{nil, "none"},
		{[][]int{}, "none"},
		{[][]int{nil}, "1"},
		{[][]int{{}, nil}, "1,1"},
		{[][]int{{1}}, "a"},
		{[][]int{word("abC"), nil, word("BA")}, "abC,1,BA"},
		{[][]int{word("a"), word("a"), word("aA")}, "a,a,aA"},
		{[][]int{{0}}, ""},
		{[][]int{{4}, {1}}, ""},
		{[][]int{{1}, {-4}}, ""},
		{[][]int{{1}, {2, math.MinInt, 1}, {1}}, ""},
		{[][]int{nil, {1, 0}}, ""},
	} {
		if got := impl.FormatWords(c.l); got != c.want {
			t.Errorf("FormatWords(%v) = %q, want %q", c.l, got, c.want)
		}
	}
	many := make([][]int, 100)
	for i := range many {
		many[i] = slices.Repeat([]int{3}, 100)
	}
	if got := impl.FormatWords(many); len(got) != 100*101-1 {
		t.Errorf("FormatWords of %d words has %d bytes", len(many), len(got))
	}
}

// Every list of words has a text, from which it is read back in each rank of which all of them are words.
func TestWordListFormatsInverse(t *testing.T) {
	lists := slices.Concat(sampleLists(), wordLists(reducedWords(3, 2), 2), wordLists(reducedWords(2, 1), 4), wordLists([][]int{nil, {1}, {-1}}, maxWords+1))
	texts := map[string][][]int{}
	for _, l := range lists {
		s := impl.FormatWords(l)
		for rank := 1; rank <= 3; rank++ {
			if wantAreWords(rank, l) {
				checkParseWords(t, rank, s, l, true)
			} else {
				checkParseWords(t, rank, s, nil, false)
			}
		}
		if other, ok := texts[s]; ok && s != "" && !equalLists(l, other) {
			t.Errorf("%v and %v have the text %s", l, other, s)
		}
		texts[s] = l
	}
}

// Exactly the texts of lists of words are read, and they are the texts of what is read.
func TestParseWords(t *testing.T) {
	texts := append(stringsOver("abAB,1", 5), stringsOver("aC,1n \x00", 4)...)
	texts = append(texts, stringsOver(everyByte(), 1)...)
	for _, s := range texts {
		for rank := 1; rank <= 3; rank++ {
			want, wantOk := wantParseWords(rank, s)
			checkParseWords(t, rank, s, want, wantOk)
			if got, ok := impl.ParseWords(rank, s); ok && impl.FormatWords(got) != s {
				t.Errorf("FormatWords of ParseWords(%d, %q) = %q", rank, s, impl.FormatWords(got))
			}
		}
	}
}

// Texts that differ from one of a list of words in a single place.
func TestParseWordsNextToFormats(t *testing.T) {
	long := wantFormatWords([][]int{longWord(24), longWord(15)})
	for _, s := range []string{"none", "1", "a", "1,1", "a,b", "1,ab", "abA,bb", "abA,1,bb", "aB,Ab,1,1,b,A", "cab,C,bbb", long} {
		for rank := 1; rank <= 3; rank++ {
			for _, next := range append(textsNextTo(s), s) {
				want, wantOk := wantParseWords(rank, next)
				checkParseWords(t, rank, next, want, wantOk)
			}
		}
	}
}

func TestParseWordsExamples(t *testing.T) {
	for _, s := range []string{"1", "a", "1,1", "1,ab", "ab,1", "a,1,b", "abA,bb", "a,a", "a,A,b,B,ab,ba", "1,1,1,1,1,1"} {
		checkParseWords(t, 2, s, words(s), true)
		checkParseWords(t, 0, s, nil, false)
		checkParseWords(t, 4, s, nil, false)
	}
	for _, rank := range sampleRanks() {
		checkParseWords(t, rank, "none", nil, 1 <= rank && rank <= 3)
	}
	for _, s := range []string{
		"", ",", ",,", "a,", ",a", "a,,b", "1,", ",1", "a, b", "a ,b", " a,b", "a,b ", "a,b\n", "a;b", "a b", "a\x00,b", "a\n,b",
		"ab,aA", "Aa,ab", "aA", "a,abBA", "c", "a,c", "c,a", "1,C", "d", "a1", "1a", "11", "a,11", "0", "a,0", "2", "-1", "á,b", "\xff",
		"none,a", "a,none", "none,none", "1,none", "none,", ",none", "None", "NONE", "non", "nonee", " none", "none ", "n",
		"1,1,1,1,1,1,1", "a,b,a,b,a,b,a", "a,b,a,b,a,b,", "a,b,a,b,a,b,c", "a,b,a,b,a,b,1,1", "a,b,a,b,a,b,none",
		strings.Repeat("a", 25), "b," + strings.Repeat("a", 25), strings.Repeat("a", 24) + "," + strings.Repeat("b", 16), strings.Repeat("a", 20) + "," + strings.Repeat("b", 20),
		strings.Repeat("a,", 100000), strings.Repeat("a", 100000), strings.Repeat(",", 100000), "a,b,a,b,a,b," + strings.Repeat("a", 100000),
	} {
		checkParseWords(t, 2, s, nil, false)
	}
	checkParseWords(t, 2, strings.Repeat("a", 24)+","+strings.Repeat("b", 15), [][]int{slices.Repeat([]int{1}, 24), slices.Repeat([]int{2}, 15)}, true)
}

// differentLists returns lists no two of which are equal: in one word, in their order or in their number, also lists that are no words.
func differentLists() [][][]int {
	return append(wordLists([][]int{nil, {1}, {2}, {1, 2}}, 3),
		words("ab,aB"), words("ab,ba"), words("ba,ab"), words("aB,ab"), words("aba"), words("a,ba"), words("ab,A"), words("a,b,c"), words("c,b,a"), words("a,b,c,a"),
		words("aA"), words("aA,bB"), words("abB"), words("A"), words("B"), words("a,A"), [][]int{{0}}, [][]int{{0, 0}}, [][]int{{0}, {0}}, [][]int{{0}, nil},
		[][]int{{math.MinInt}}, [][]int{{math.MaxInt}}, [][]int{{-math.MaxInt}}, [][]int{{1<<32 + 1}}, [][]int{{4}, {1}}, slices.Repeat([][]int{nil}, 7), slices.Repeat([][]int{nil}, 8), [][]int{longWord(25)}, [][]int{longWord(26)},
	)
}

func TestEqualWordLists(t *testing.T) {
	l := differentLists()
	copies := differentLists()
	for i, a := range l {
		for k, b := range copies {
			if got := impl.EqualWordLists(a, b); got != (i == k) {
				t.Errorf("EqualWordLists(%v, %v) = %t", a, b, got)
			}
		}
	}
	for _, a := range [][][]int{nil, {}} {
		for _, b := range [][][]int{nil, {}} {
			if !impl.EqualWordLists(a, b) {
				t.Error("EqualWordLists tells a nil list from an empty one")
			}
		}
		if impl.EqualWordLists(a, [][]int{nil}) || impl.EqualWordLists([][]int{{}}, a) {
			t.Error("EqualWordLists takes an empty word for no word")
		}
	}
	if !impl.EqualWordLists([][]int{nil, {1}, {}}, [][]int{{}, {1}, nil}) {
		t.Error("EqualWordLists tells a nil word from an empty one")
	}
}

// Lists of which a part was changed: one letter, one word, two words exchanged, a word left out or added.
func TestEqualWordListsNextTo(t *testing.T) {
	for _, s := range []string{"a", "ab,ba", "1,ab", "abA,bb,1,c,Ab,BA", "abc,abC,aBc,Abc"} {
		l := words(s)
		for i, w := range l {
			other := append(slices.Clone(w), 1)
			changed := [][][]int{slices.Concat(l[:i], l[i+1:]), slices.Concat(l[:i], [][]int{other}, l[i+1:]), slices.Concat(l[:i], [][]int{other}, l[i:]), slices.Concat(l[:i], [][]int{nil}, l[i:])}
			for k := range w {
				other := slices.Clone(w)
				other[k] = -other[k]
				changed = append(changed, slices.Concat(l[:i], [][]int{other}, l[i+1:]))
			}
			for k := range i {
				swapped := slices.Clone(l)
				swapped[i], swapped[k] = swapped[k], swapped[i]
				changed = append(changed, swapped)
			}
			for _, c := range changed {
				if impl.EqualWordLists(l, c) || impl.EqualWordLists(c, l) {
					t.Errorf("EqualWordLists(%v, %v) is true", l, c)
				}
			}
		}
		if !impl.EqualWordLists(l, words(s)) {
			t.Errorf("EqualWordLists(%v, %v) is false", l, words(s))
		}
	}
}

// Lists with nothing in them are treated alike, whether they are nil or empty.
func TestFlowersWithEmptyLists(t *testing.T) {
	for _, l := range [][][]int{nil, {}} {
		got, ok := impl.FlowerOf(2, l)
		checkGraph(t, got, ok, graphOf(2, 1), true, "FlowerOf", 2, l)
		if !impl.AreWords(2, l) || impl.TotalLength(l) != 0 || impl.FormatWords(l) != "none" {
			t.Errorf("%v is not taken for the empty list", l)
		}
	}
	for _, edges := range [][]impl.Edge{nil, {}} {
		got, ok := impl.AddPetal(graph{Rank: 2, Size: 1, Edges: edges}, []int{1, 2})
		checkGraph(t, got, ok, graphOf(2, 2, edge(0, 1, 1), edge(1, 2, 0)), true, "AddPetal", edges)
	}
}

// Arguments keep their elements and unused capacity, and a change to a result changes no argument and no later result.
func TestPathsShareNoMemory(t *testing.T) {
	for _, original := range slices.Concat(smallGraphs(), limitGraphs(), invalidGraphs(), largeFoldedGraphs()) {
		g, memory := graphWithRoom(original)
		wantMemory := slices.Clone(memory)
		for _, letters := range [][]int{nil, {1}, {-1}, word("aab"), word("aA"), longWord(24)} {
			w, memoryOfW := withRoom(letters)
			wantMemoryOfW := slices.Clone(memoryOfW)
			calls := []func() (graph, bool){
				func() (graph, bool) { return impl.AddPath(g, 0, w, 1) },
				func() (graph, bool) { return impl.AddPath(g, 0, w, -1) },
				func() (graph, bool) { return impl.AddPetal(g, w) },
			}
			for i, call := range calls {
				got, ok := call()
				want := got
				want.Edges = slices.Clone(got.Edges)
				overwrittenGraph(got)
				again, alsoOk := call()
				checkGraph(t, again, alsoOk, want, ok, "the same call again", i, original, w)
			}
			checkList(t, memoryOfW, wantMemoryOfW, "word", original)
		}
		if !slices.Equal(memory, wantMemory) {
			t.Errorf("the edges of %v have changed to %v", original, memory)
		}
	}
}

// wordsWithRoom returns a copy of a list whose words lie behind each other in one memory, as does the list itself with more behind it, and both of these memories.
func wordsWithRoom(l [][]int) ([][]int, [][]int, []int) {
	letters := append(slices.Concat(l...), 77, 77, 77)
	memory := slices.Repeat([][]int{letters}, len(l)+2)
	at := 0
	for i, w := range l {
		memory[i] = letters[at : at+len(w)]
		at += len(w)
	}
	return memory[:len(l)], memory, letters
}

func TestWordListsShareNoMemory(t *testing.T) {
	for _, original := range append(differentLists(), limitLists()...) {
		l, memory, letters := wordsWithRoom(original)
		wantMemory, wantLetters := slices.Clone(memory), slices.Clone(letters)
		for range 2 {
			got, ok := impl.FlowerOf(3, l)
			want, wantOk := wantFlower(3, original)
			checkGraph(t, got, ok, want, wantOk, "FlowerOf", original)
			overwrittenGraph(got)
		}
		impl.AreWords(3, l)
		impl.TotalLength(l)
		impl.FormatWords(l)
		impl.EqualWordLists(l, l)
		checkList(t, letters, wantLetters, "letters", original)
		if !equalLists(memory, wantMemory) {
			t.Errorf("the words of %v have changed to %v", original, memory)
		}
	}
}

// No two words of one result share memory, not even in their unused capacity, and none is shared with a later result.
func TestParsedWordsShareNoMemory(t *testing.T) {
	for _, s := range []string{"a", "abA,bb", "1,ab,1,ba", "a,a,a,a,a,a", "c,abC,1,aabbcc"} {
		want := words(s)
		for i := range want {
			got, _ := impl.ParseWords(3, s)
			overwritten(got[i])
			got[i] = want[i]
			if !equalLists(got, want) {
				t.Errorf("ParseWords(3, %s) = %v after word %d was overwritten", s, got, i)
			}
			checkParseWords(t, 3, s, want, true)
		}
	}
}
