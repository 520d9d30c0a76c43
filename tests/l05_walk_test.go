package tests

import (
	"math"
	"slices"
	"strings"
	"testing"

	"loop.example/g02075/impl"
)

// Promise 4, as far as chapter 5 goes: where a word leads, how much of it can be read, which vertices are connected, and shortest words.
// The wanted results are computed here in the plainest way, from the definitions of the chapter.

func wantIsFolded(g graph) bool {
	if !wantIsGraph(g) {
		return false
	}
	for i, e := range g.Edges {
		for _, f := range g.Edges[i+1:] {
			if e.Letter == f.Letter && (e.From == f.From || e.To == f.To) {
				return false
			}
		}
	}
	return true
}

func wantNext(g graph, v int, letter int) int {
	for _, u := range wantSteps(g, v, letter) {
		return u
	}
	return -1
}

func isThere(g graph, v int) bool {
	return 0 <= v && v < g.Size
}

func wantWalk(g graph, v int, w []int) (int, bool) {
	if !wantIsFolded(g) || !isThere(g, v) {
		return -1, false
	}
	for _, letter := range w {
		v = wantNext(g, v, letter)
		if v == -1 {
			return -1, false
		}
	}
	return v, true
}

func wantRead(g graph, v int, w []int) int {
	for n := len(w); n > 0; n-- {
		if _, ok := wantWalk(g, v, w[:n]); ok {
			return n
		}
	}
	return 0
}

// wantDistances tells how many edges lie between any two vertices, in any direction; vertices that are not connected are 1000 apart.
func wantDistances(g graph) [][]int {
	d := make([][]int, g.Size)
	for u := range d {
		d[u] = slices.Repeat([]int{1000}, g.Size)
		d[u][u] = 0
	}
	for _, e := range g.Edges {
		if e.From != e.To {
			d[e.From][e.To], d[e.To][e.From] = 1, 1
		}
	}
	for k := range d {
		for u := range d {
			for v := range d {
				d[u][v] = min(d[u][v], d[u][k]+d[k][v])
			}
		}
	}
	return d
}

func wantReached(g graph, v int) []int {
	if !wantIsGraph(g) || !isThere(g, v) {
		return nil
	}
	var l []int
	for u, n := range wantDistances(g)[v] {
		if n < 1000 {
			l = append(l, u)
		}
	}
	return l
}

// wantPath takes the first letter that leads closer to v, again and again: a search by breadth finds the first shortest word by CompareWords.
func wantPath(g graph, u int, v int) ([]int, bool) {
	if !wantIsFolded(g) || !isThere(g, u) || !isThere(g, v) {
		return nil, false
	}
	d := wantDistances(g)
	if d[u][v] == 1000 {
		return nil, false
	}
	var w []int
	for u != v {
		for _, letter := range []int{1, -1, 2, -2, 3, -3} {
			if next := wantNext(g, u, letter); next != -1 && d[next][v] < d[u][v] {
				w = append(w, letter)
				u = next
				break
			}
		}
	}
	return w, true
}

// wantLoops tries all reduced words, which are in the order of CompareWords.
func wantLoops(g graph, v int, most int) [][]int {
	if !wantIsFolded(g) || most < 0 || most > 4 {
		return nil
	}
	return slices.DeleteFunc(reducedWords(g.Rank, most), func(w []int) bool {
		u, ok := wantWalk(g, v, w)
		return !ok || u != v
	})
}

func foldedAmong(l []graph) []graph {
	return slices.DeleteFunc(l, func(g graph) bool { return !wantIsFolded(g) })
}

// everyNth returns some of the elements, spread over the whole list.
func everyNth[T any](l []T, n int) []T {
	var some []T
	for i := 0; i < len(l); i += n {
		some = append(some, l[i])
	}
	return some
}

// foldedGraphs returns all folded graphs of a rank and a size.
func foldedGraphs(rank int, size int) []graph {
	l := []graph{graphOf(rank, size)}
	for _, e := range edgesOfAll(rank, size) {
		for _, g := range l {
			if h := graphOf(rank, size, append(slices.Clone(g.Edges), e)...); wantIsFolded(h) {
				l = append(l, h)
			}
		}
	}
	return l
}

// lineGraph has the vertices in a line, from one to the next by the letters in turn, so that it is folded and has no loops.
func lineGraph(rank int, size int, letters ...int) graph {
	g := graphOf(rank, size)
	for v := range size - 1 {
		g.Edges = append(g.Edges, edge(v, letters[v%len(letters)], v+1))
	}
	return g
}

// ringGraph has a ring for each letter, with steps of their own widths, so that it is folded and all letters can be read everywhere.
func ringGraph(size int, widths ...int) graph {
	g := graphOf(len(widths), size)
	for v := range size {
		for i, width := range widths {
			g.Edges = append(g.Edges, edge(v, i+1, (v+width)%size))
		}
	}
	return g
}

// largeFoldedGraphs returns folded graphs with many vertices or edges, some of them at the limits.
func largeFoldedGraphs() []graph {
	return []graph{
		graphOf(3, maxVertices),
		lineGraph(1, maxVertices, 1),
		lineGraph(3, maxVertices, 1, 2, 3),
		lineGraph(2, maxVertices, 2, 1),
		ringGraph(maxVertices, 1),
		ringGraph(maxVertices, 1, 7, 39),
		ringGraph(maxVertices, 2, 4, 38),
		ringGraph(12, 4, 6),
		ringGraph(30, 6, 10, 15),
		graphOf(3, maxVertices, ringGraph(maxVertices, 3, 5, 9).Edges[1:]...),
		graphOf(3, maxVertices, everyNth(ringGraph(maxVertices, 3, 5, 9).Edges, 2)...),
		graphOf(2, maxVertices, lineGraph(2, 20, 1, 2).Edges...),
		graphOf(1, maxVertices, edge(38, 1, 39), edge(39, 1, 0)),
	}
}

// unfoldedGraphs returns valid graphs with two edges that must be folded together, by From, by To and by both.
func unfoldedGraphs() []graph {
	l := []graph{
		graphOf(1, 2, edge(0, 1, 0), edge(0, 1, 1)),
		graphOf(1, 2, edge(0, 1, 0), edge(1, 1, 0)),
		graphOf(1, 2, edge(0, 1, 1), edge(1, 1, 1)),
		graphOf(1, 2, edge(1, 1, 0), edge(1, 1, 1)),
		graphOf(2, 3, edge(0, 1, 1), edge(0, 1, 2)),
		graphOf(2, 3, edge(1, 1, 0), edge(2, 1, 0)),
		graphOf(2, 3, edge(0, 2, 1), edge(0, 2, 2), edge(1, 1, 1)),
		graphOf(2, 3, edge(0, 1, 1), edge(1, 2, 2), edge(2, 1, 0), edge(2, 2, 2)),
		graphOf(3, 4, edge(0, 1, 0), edge(0, 2, 0), edge(1, 3, 2), edge(1, 3, 3)),
		graphOf(3, 4, edge(0, 1, 0), edge(0, 2, 0), edge(1, 3, 3), edge(2, 3, 3)),
		graphOf(3, 4, edge(0, 1, 0), edge(0, 1, 1), edge(2, 3, 3), edge(3, 3, 3)),
	}
	for _, g := range limitGraphs() {
		if !wantIsFolded(g) {
			l = append(l, g)
		}
	}
	// One edge more than a graph with all letters everywhere has, or one that ends elsewhere, is never folded.
	one, other := ringGraph(39, 1, 2, 3), ringGraph(maxVertices, 1, 2, 3)
	one.Edges = append(one.Edges, edge(38, 3, 38))
	other.Edges[119].To = 39
	return append(l, one, other)
}

// strangeVertices returns numbers that are no vertices of a graph.
func strangeVertices(g graph) []int {
	return []int{math.MinInt, -1 << 32, -2, -1, max(g.Size, 0), max(g.Size, 0) + 1, maxVertices, maxVertices + 1, 1 << 32, math.MaxInt}
}

// strangeLetters returns numbers that are no letters of a rank, nor inverses of such.
func strangeLetters(rank int) []int {
	return []int{0, rank + 1, -rank - 1, 4, -4, 97, -97, 1<<32 + 1, -(1<<32 + 1), math.MaxInt, -math.MaxInt, math.MinInt}
}

func checkWalk(t *testing.T, g graph, v int, w []int) {
	t.Helper()
	got, ok := impl.WalkWord(g, v, w)
	if want, wantOk := wantWalk(g, v, w); got != want || ok != wantOk {
		t.Errorf("WalkWord(%v, %d, %v) = %d, %t, want %d, %t", g, v, w, got, ok, want, wantOk)
	}
	if got, want := impl.ReadLength(g, v, w), wantRead(g, v, w); got != want {
		t.Errorf("ReadLength(%v, %d, %v) = %d, want %d", g, v, w, got, want)
	}
}

func checkPath(t *testing.T, g graph, u int, v int) {
	t.Helper()
	got, ok := impl.PathWord(g, u, v)
	want, wantOk := wantPath(g, u, v)
	if !slices.Equal(got, want) || ok != wantOk {
		t.Errorf("PathWord(%v, %d, %d) = %v, %t, want %v, %t", g, u, v, got, ok, want, wantOk)
	}
}

func equalLists(a [][]int, b [][]int) bool {
	return slices.EqualFunc(a, b, slices.Equal[[]int])
}

func checkLoops(t *testing.T, g graph, v int, most int) {
	t.Helper()
	if got, want := impl.LoopWords(g, v, most), wantLoops(g, v, most); !equalLists(got, want) {
		t.Errorf("LoopWords(%v, %d, %d) = %v, want %v", g, v, most, got, want)
	}
}

func TestIsFolded(t *testing.T) {
	for _, g := range slices.Concat(smallGraphs(), allGraphs(3, 2), limitGraphs(), invalidGraphs(), largeFoldedGraphs(), unfoldedGraphs()) {
		if got, want := impl.IsFolded(g), wantIsFolded(g); got != want {
			t.Errorf("IsFolded(%v) = %t, want %t", g, got, want)
		}
	}
}

func TestIsFoldedExamples(t *testing.T) {
	for _, g := range largeFoldedGraphs() {
		if !impl.IsFolded(g) {
			t.Errorf("IsFolded(%v) is false", g)
		}
	}
	for _, g := range slices.Concat(unfoldedGraphs(), invalidGraphs()) {
		if impl.IsFolded(g) {
			t.Errorf("IsFolded(%v) is true", g)
		}
	}
	// The same letter from v and to v does not need a fold, nor do two letters that share both ends.
	for _, g := range []graph{graphOf(1, 1), graphOf(1, 1, edge(0, 1, 0)), graphOf(2, 2, edge(0, 1, 1), edge(0, 2, 1), edge(1, 1, 0)), graphOf(1, 3, edge(0, 1, 1), edge(1, 1, 2))} {
		if !impl.IsFolded(g) {
			t.Errorf("IsFolded(%v) is false", g)
		}
	}
}

// NextVertex follows StepsFrom in all graphs, also in those that are not folded or not valid.
func TestNextVertex(t *testing.T) {
	for _, g := range slices.Concat(smallGraphs(), limitGraphs(), invalidGraphs(), largeFoldedGraphs(), unfoldedGraphs()) {
		for _, v := range append(strangeVertices(g), 0, 1, 2, 3, 10, 38, 39) {
			for _, letter := range append(strangeLetters(3), 1, -1, 2, -2, 3, -3) {
				if got, want := impl.NextVertex(g, v, letter), wantNext(g, v, letter); got != want {
					t.Errorf("NextVertex(%v, %d, %d) = %d, want %d", g, v, letter, got, want)
				}
			}
		}
	}
}

func TestNextVertexExamples(t *testing.T) {
	folded := graphOf(2, 3, edge(0, 1, 1), edge(1, 2, 2), edge(2, 1, 0), edge(2, 2, 1))
	unfolded := graphOf(2, 12, edge(0, 1, 10), edge(0, 1, 11), edge(2, 1, 1), edge(3, 1, 1))
	loop := graphOf(2, 1, edge(0, 2, 0))
	for _, c := range []struct {
		g      graph
		v      int
		letter int
		want   int
	}{
		{folded, 0, 1, 1}, {folded, 0, -1, 2}, {folded, 0, 2, -1}, {folded, 0, -2, -1},
		{folded, 1, 2, 2}, {folded, 1, -2, 2}, {folded, 2, 1, 0}, {folded, 2, -1, -1}, {folded, 2, 2, 1},
		{folded, 0, 0, -1}, {folded, 0, 3, -1}, {folded, -1, 1, -1}, {folded, 3, 1, -1},
		{unfolded, 0, 1, 10}, {unfolded, 1, -1, 2}, {unfolded, 11, -1, 0}, {unfolded, 3, 1, 1},
		{loop, 0, 2, 0}, {loop, 0, -2, 0}, {loop, 0, 1, -1},
	} {
		if got := impl.NextVertex(c.g, c.v, c.letter); got != c.want {
			t.Errorf("NextVertex(%v, %d, %d) = %d, want %d", c.g, c.v, c.letter, got, c.want)
		}
	}
}

// All lists of letters, reduced or not, in all folded graphs of two small sizes; longer lists in some larger graphs.
func TestWalkWord(t *testing.T) {
	letters := []int{1, -1, 2, -2}
	for _, g := range foldedGraphs(2, 2) {
		for _, w := range listsOver(append(letters, 0, 3), 3) {
			checkWalk(t, g, 0, w)
			checkWalk(t, g, 1, w)
		}
	}
	for _, g := range everyNth(foldedGraphs(2, 3), 5) {
		for _, w := range everyNth(listsOver(letters, 5), 7) {
			checkWalk(t, g, len(w)%3, w)
		}
	}
	for _, g := range append(largeFoldedGraphs(), foldedAmong(limitGraphs())...) {
		for i, w := range listsOver([]int{1, -1, 2, -2, 3, -3}, 3) {
			checkWalk(t, g, i*7%g.Size, w)
		}
		checkWalk(t, g, 0, slices.Repeat([]int{1, 2, 3}, 13))
		checkWalk(t, g, 0, slices.Repeat([]int{2, 1}, 20))
		checkWalk(t, g, g.Size-1, slices.Repeat([]int{-3, -2, -1}, 13))
	}
}

func TestWalkWordExamples(t *testing.T) {
	g := graphOf(2, 3, edge(0, 1, 1), edge(1, 2, 2), edge(2, 1, 0))
	h := graphOf(3, 3, edge(0, 1, 0), edge(0, 2, 1), edge(1, 3, 1))
	for _, c := range []struct {
		g    graph
		v    int
		w    string
		read int
		end  int
	}{
		{g, 0, "", 0, 0}, {g, 2, "", 0, 2}, {g, 0, "a", 1, 1}, {g, 0, "ab", 2, 2}, {g, 0, "aba", 3, 0}, {g, 0, "abaaba", 6, 0}, {g, 1, "ba", 2, 0},
		{g, 0, "A", 1, 2}, {g, 0, "AB", 2, 1}, {g, 0, "ABA", 3, 0}, {g, 2, "BA", 2, 0},
		{g, 0, "aA", 2, 0}, {g, 0, "aAAa", 4, 0}, {g, 0, "abBA", 4, 0}, {g, 1, "bBbBb", 5, 2},
		{g, 0, "b", 0, -1}, {g, 0, "bB", 0, -1}, {g, 0, "baa", 0, -1}, {g, 0, "aa", 1, -1}, {g, 0, "aaA", 1, -1}, {g, 0, "abb", 2, -1}, {g, 0, "abab", 3, -1}, {g, 0, "c", 0, -1}, {g, 0, "abC", 2, -1},
		{h, 0, "aaaa", 4, 0}, {h, 0, "AaAA", 4, 0}, {h, 0, "aabccc", 6, 1}, {h, 0, "bcB", 3, 0}, {h, 0, "bb", 1, -1}, {h, 1, "a", 0, -1}, {h, 2, "", 0, 2}, {h, 2, "a", 0, -1}, {h, 2, "A", 0, -1},
	} {
		got, ok := impl.WalkWord(c.g, c.v, word(c.w))
		if got != c.end || ok != (c.end >= 0) {
			t.Errorf("WalkWord(%v, %d, %s) = %d, %t, want %d", c.g, c.v, c.w, got, ok, c.end)
		}
		if got := impl.ReadLength(c.g, c.v, word(c.w)); got != c.read {
			t.Errorf("ReadLength(%v, %d, %s) = %d, want %d", c.g, c.v, c.w, got, c.read)
		}
	}
}

// The edge case of this chapter: a letter that cannot be read, as the first one, in the middle and as the last one.
// It may be a letter with no edge there, one of a higher rank, or a number that is no letter at all.
func TestLetterThatCannotBeRead(t *testing.T) {
	for _, c := range []struct {
		g       graph
		v       int
		w       []int
		letters []int
	}{
		{graphOf(2, 3, edge(0, 1, 1), edge(1, 2, 2), edge(2, 1, 0)), 0, word("abaABA"), nil},
		{graphOf(1, 1, edge(0, 1, 0)), 0, word("aaAa"), []int{2, -2, 3, -3}},
		{graphOf(3, 2, edge(1, 2, 1)), 1, word("bBbb"), []int{1, -1, 3, -3}},
		{graphOf(2, 2), 1, nil, []int{1, -1, 2, -2, 3, -3}},
		{ringGraph(maxVertices, 1, 7), 39, word("abABabAB"), []int{3, -3}},
		{lineGraph(1, maxVertices, 1), 0, slices.Repeat([]int{1}, maxVertices-1), []int{2, -2}},
	} {
		for _, letter := range append(c.letters, strangeLetters(c.g.Rank)...) {
			for i := range len(c.w) + 1 {
				w := slices.Concat(c.w[:i], []int{letter}, c.w[i:])
				if end, ok := impl.WalkWord(c.g, c.v, w); end != -1 || ok {
					t.Errorf("WalkWord(%v, %d, %v) = %d, %t", c.g, c.v, w, end, ok)
				}
				if n := impl.ReadLength(c.g, c.v, w); n != i {
					t.Errorf("ReadLength(%v, %d, %v) = %d, want %d", c.g, c.v, w, n, i)
				}
			}
		}
		if _, ok := impl.WalkWord(c.g, c.v, c.w); !ok || impl.ReadLength(c.g, c.v, c.w) != len(c.w) {
			t.Errorf("%v cannot be read from %d in %v", c.w, c.v, c.g)
		}
	}
	// At the end of the line there is no edge onwards.
	line := lineGraph(1, maxVertices, 1)
	w := slices.Repeat([]int{1}, maxVertices)
	if end, ok := impl.WalkWord(line, 0, w); end != -1 || ok || impl.ReadLength(line, 0, w) != maxVertices-1 {
		t.Errorf("the line has no end: %d, %t", end, ok)
	}
}

// What can be read is read by the inverse from its end back, and reducing it does not change its end.
func TestWalksBackwards(t *testing.T) {
	graphs := slices.Concat(foldedGraphs(2, 2), everyNth(foldedGraphs(2, 3), 9), largeFoldedGraphs())
	for _, g := range graphs {
		for i, w := range everyNth(listsOver([]int{1, -1, 2, -2}, 4), 3) {
			v := i % g.Size
			n := impl.ReadLength(g, v, w)
			end, ok := impl.WalkWord(g, v, w[:n])
			back, alsoOk := impl.WalkWord(g, end, wantInvert(w[:n]))
			if !ok || !alsoOk || back != v {
				t.Errorf("%v leads from %d to %d in %v (%t), but back to %d (%t)", w[:n], v, end, g, ok, back, alsoOk)
			}
			if reducedEnd, ok := impl.WalkWord(g, v, wantReduced(w[:n])); !ok || reducedEnd != end {
				t.Errorf("%v leads from %d to %d in %v, but reduced to %d, %t", w[:n], v, end, g, reducedEnd, ok)
			}
		}
	}
}

func TestLoopsAtAVertex(t *testing.T) {
	for _, g := range []graph{ringGraph(1, 0), ringGraph(1, 0, 0), ringGraph(1, 0, 0, 0)} {
		for _, w := range listsOver([]int{1, -1, 2, -2, 3, -3}, 3) {
			all := !slices.ContainsFunc(w, func(n int) bool { return n > g.Rank || n < -g.Rank })
			if end, ok := impl.WalkWord(g, 0, w); ok != all || all && end != 0 {
				t.Errorf("WalkWord(%v, 0, %v) = %d, %t", g, w, end, ok)
			}
		}
		if got, want := impl.LoopWords(g, 0, 4), reducedWords(g.Rank, 4); !equalLists(got, want) {
			t.Errorf("LoopWords(%v, 0, 4) = %v", g, got)
		}
	}
	two := graphOf(2, 2, edge(0, 1, 1), edge(1, 2, 1))
	for most, want := range []string{"1", "1", "1", "1,abA,aBA", "1,abA,aBA,abbA,aBBA"} {
		if got := impl.FormatWords(impl.LoopWords(two, 0, most)); got != want {
			t.Errorf("LoopWords(%v, 0, %d) = %s, want %s", two, most, got, want)
		}
	}
}

// checkNothing expects the fixed results of the functions that need a folded graph and a vertex of it.
func checkNothing(t *testing.T, g graph, v int) {
	t.Helper()
	for _, w := range [][]int{nil, {1}, {-1}, {2}, {3, -3}, {0}, {math.MinInt}} {
		if end, ok := impl.WalkWord(g, v, w); end != -1 || ok {
			t.Errorf("WalkWord(%v, %d, %v) = %d, %t", g, v, w, end, ok)
		}
		if n := impl.ReadLength(g, v, w); n != 0 {
			t.Errorf("ReadLength(%v, %d, %v) = %d", g, v, w, n)
		}
	}
	for _, u := range []int{v, 0, 1, -1} {
		for _, pair := range [][2]int{{u, v}, {v, u}} {
			if w, ok := impl.PathWord(g, pair[0], pair[1]); len(w) != 0 || ok {
				t.Errorf("PathWord(%v, %d, %d) = %v, %t", g, pair[0], pair[1], w, ok)
			}
		}
	}
	for most := -1; most <= 5; most++ {
		if l := impl.LoopWords(g, v, most); len(l) != 0 {
			t.Errorf("LoopWords(%v, %d, %d) = %v", g, v, most, l)
		}
	}
}

func TestWalksInGraphsThatAreNotFolded(t *testing.T) {
	for _, g := range unfoldedGraphs() {
		for _, v := range append(strangeVertices(g), 0, 1, 2, 3, 39) {
			checkNothing(t, g, v)
		}
		for v := range g.Size {
			checkList(t, impl.ReachedFrom(g, v), wantReached(g, v), "ReachedFrom", g, v)
		}
	}
}

func TestWalksInGraphsThatAreNotValid(t *testing.T) {
	for _, g := range invalidGraphs() {
		for _, v := range append(strangeVertices(g), 0, 1, 2, 3, 39) {
			checkNothing(t, g, v)
			checkList(t, impl.ReachedFrom(g, v), nil, "ReachedFrom", g, v)
		}
		if impl.IsConnected(g) {
			t.Errorf("IsConnected(%v) is true", g)
		}
	}
}

func TestWalksFromVerticesThatAreNotThere(t *testing.T) {
	for _, g := range slices.Concat(foldedGraphs(2, 2), largeFoldedGraphs()) {
		for _, v := range strangeVertices(g) {
			if !isThere(g, v) {
				checkNothing(t, g, v)
				checkList(t, impl.ReachedFrom(g, v), nil, "ReachedFrom", g, v)
			}
		}
	}
}

func TestReachedFrom(t *testing.T) {
	for _, g := range slices.Concat(smallGraphs(), everyNth(allGraphs(1, 4), 11), limitGraphs(), largeFoldedGraphs(), unfoldedGraphs()) {
		for v := range g.Size {
			checkList(t, impl.ReachedFrom(g, v), wantReached(g, v), "ReachedFrom", g, v)
		}
		if got, want := impl.IsConnected(g), len(wantReached(g, 0)) == g.Size; got != want {
			t.Errorf("IsConnected(%v) = %t, want %t", g, got, want)
		}
	}
}

// Connection does not depend on the direction of edges, nor on their order in the list.
func TestReachedFromExamples(t *testing.T) {
	all := edgesOfAll(1, maxVertices)
	backwards := slices.DeleteFunc(slices.Clone(all), func(e impl.Edge) bool { return e.From != e.To+1 })
	zigzag := graphOf(1, maxVertices)
	for v := 1; v < maxVertices-1; v += 2 {
		zigzag.Edges = append(zigzag.Edges, edge(v, 1, v-1), edge(v, 1, v+1))
	}
	zigzag.Edges = append(zigzag.Edges, edge(39, 1, 38))
	fromEnds := graphOf(1, maxVertices)
	for v := range maxVertices / 2 {
		// The line 0, 39, 1, 38, 2 and so on.
		fromEnds.Edges = append(fromEnds.Edges, edge(v, 1, maxVertices-1-v))
	}
	for v := range maxVertices/2 - 1 {
		fromEnds.Edges = append(fromEnds.Edges, edge(maxVertices-1-v, 1, v+1))
	}
	slices.SortFunc(fromEnds.Edges, wantCompareEdges)
	everyVertex := make([]int, maxVertices)
	for v := range everyVertex {
		everyVertex[v] = v
	}
	for _, g := range []graph{lineGraph(3, maxVertices, 3), graphOf(1, maxVertices, backwards...), zigzag, fromEnds, ringGraph(maxVertices, 39)} {
		for v := range maxVertices {
			checkList(t, impl.ReachedFrom(g, v), everyVertex, "ReachedFrom", g, v)
		}
		if !impl.IsConnected(g) {
			t.Errorf("IsConnected(%v) is false", g)
		}
	}
	// 0 and 2 are connected through 4, 1 and 3 with a letter each, and 5 has only a loop.
	parts := graphOf(2, 6, edge(0, 1, 4), edge(1, 1, 3), edge(1, 2, 3), edge(2, 2, 4), edge(5, 1, 5))
	for v, want := range [][]int{{0, 2, 4}, {1, 3}, {0, 2, 4}, {1, 3}, {0, 2, 4}, {5}} {
		checkList(t, impl.ReachedFrom(parts, v), want, "ReachedFrom", parts, v)
	}
	for _, c := range []struct {
		g    graph
		want bool
	}{
		{graphOf(1, 1), true}, {graphOf(2, 2), false}, {parts, false}, {graphOf(1, 2, edge(1, 1, 0)), true}, {graphOf(1, 2, edge(1, 1, 1)), false},
		{graphOf(1, 3, edge(1, 1, 2)), false}, {graphOf(1, 3, edge(0, 1, 1)), false}, {graphOf(1, 3, edge(0, 1, 1), edge(2, 1, 1)), true}, {graph{}, false}, {graphOf(1, 0), false}, {graphOf(4, 1), false},
	} {
		if got := impl.IsConnected(c.g); got != c.want {
			t.Errorf("IsConnected(%v) = %t", c.g, got)
		}
	}
}

func TestPathWord(t *testing.T) {
	graphs := slices.Concat(foldedGraphs(1, 1), foldedGraphs(3, 2), foldedGraphs(2, 3), foldedGraphs(1, 4), everyNth(foldedGraphs(2, 4), 101))
	for _, g := range append(graphs, largeFoldedGraphs()...) {
		for u := range g.Size {
			for v := 0; v < g.Size; v += 1 + g.Size/10 {
				checkPath(t, g, u, v)
			}
		}
	}
}

// Of all words that lead from u to v, PathWord is the first one in the order of CompareWords.
func TestPathWordIsTheFirstWord(t *testing.T) {
	words := reducedWords(2, 3)
	for _, g := range everyNth(foldedGraphs(2, 4), 97) {
		for _, pair := range [][2]int{{0, 0}, {0, 1}, {0, 2}, {0, 3}, {2, 1}, {3, 0}} {
			got, ok := impl.PathWord(g, pair[0], pair[1])
			i := slices.IndexFunc(words, func(w []int) bool {
				end, ok := impl.WalkWord(g, pair[0], w)
				return ok && end == pair[1]
			})
			if ok != (i >= 0) || ok && !slices.Equal(got, words[i]) {
				t.Errorf("PathWord(%v, %d, %d) = %v, %t, but the first word is number %d", g, pair[0], pair[1], got, ok, i)
			}
		}
	}
}

// Where several words are as short, the one found first is returned.
func TestPathWordExamples(t *testing.T) {
	// From 0 the letters 1, -1, 2 and -2 lead to 4, 3, 2 and 1, and from all of these a letter leads to 5.
	square := graphOf(3, 6, edge(0, 1, 4), edge(0, 2, 2), edge(1, 2, 0), edge(1, 3, 5), edge(3, 1, 0), edge(4, 2, 5), edge(5, 1, 3), edge(5, 3, 2))
	for _, c := range []struct {
		g    graph
		u    int
		v    int
		want string
	}{
		{graphOf(2, 3, edge(0, 1, 1), edge(1, 2, 2), edge(2, 1, 0)), 0, 2, "A"},
		{graphOf(2, 3, edge(0, 1, 1), edge(1, 2, 2), edge(2, 1, 0)), 2, 1, "B"},
		{graphOf(2, 3, edge(0, 1, 1), edge(1, 2, 2), edge(2, 1, 0)), 1, 1, ""},
		{graphOf(1, 2, edge(0, 1, 1), edge(1, 1, 0)), 0, 1, "a"},
		{graphOf(1, 2, edge(1, 1, 0)), 0, 1, "A"},
		{graphOf(3, 2, edge(0, 3, 1), edge(1, 2, 0)), 0, 1, "B"},
		{graphOf(3, 2, edge(0, 2, 1), edge(0, 3, 1), edge(1, 1, 0)), 0, 1, "A"},
		{graphOf(3, 2, edge(0, 2, 1), edge(0, 3, 1), edge(1, 1, 0)), 1, 0, "a"},
		{graphOf(3, 2, edge(0, 3, 1), edge(1, 3, 0)), 0, 1, "c"},
		{graphOf(2, 4, edge(0, 1, 2), edge(0, 2, 1), edge(1, 1, 3), edge(2, 2, 3)), 0, 3, "ab"},
		{graphOf(2, 4, edge(0, 1, 2), edge(0, 2, 1), edge(1, 1, 3), edge(2, 2, 3)), 3, 0, "AB"},
		{graphOf(2, 4, edge(0, 2, 1), edge(1, 1, 3), edge(2, 1, 0), edge(2, 2, 3)), 0, 3, "Ab"},
		{graphOf(1, 5, edge(0, 1, 1), edge(1, 1, 2), edge(2, 1, 3), edge(3, 1, 4), edge(4, 1, 0)), 0, 2, "aa"},
		{graphOf(1, 5, edge(0, 1, 1), edge(1, 1, 2), edge(2, 1, 3), edge(3, 1, 4), edge(4, 1, 0)), 0, 3, "AA"},
		{graphOf(1, 4, edge(0, 1, 1), edge(1, 1, 2), edge(2, 1, 3), edge(3, 1, 0)), 3, 1, "aa"},
		{square, 0, 5, "ab"},
		{square, 5, 0, "aa"},
		{lineGraph(1, maxVertices, 1), 0, 39, strings.Repeat("a", 39)},
		{lineGraph(3, maxVertices, 1, 2, 3), 39, 0, strings.Repeat("CBA", 13)},
	} {
		got, ok := impl.PathWord(c.g, c.u, c.v)
		if !ok || !slices.Equal(got, word(c.want)) {
			t.Errorf("PathWord(%v, %d, %d) = %v, %t, want %s", c.g, c.u, c.v, got, ok, c.want)
		}
	}
}

func TestPathWordInPartsThatAreNotConnected(t *testing.T) {
	parts := graphOf(2, 6, edge(0, 1, 4), edge(1, 1, 3), edge(1, 2, 3), edge(2, 2, 4), edge(5, 1, 5))
	for u := range 6 {
		for v := range 6 {
			checkPath(t, parts, u, v)
			_, ok := impl.PathWord(parts, u, v)
			if want := slices.Contains(impl.ReachedFrom(parts, u), v); ok != want {
				t.Errorf("PathWord(%v, %d, %d) is %t", parts, u, v, ok)
			}
		}
		checkLoops(t, parts, u, 4)
	}
	for _, c := range []struct {
		v    int
		want string
	}{{0, "1"}, {1, "1,aB,bA,aBaB,bAbA"}, {3, "1,Ab,Ba,AbAb,BaBa"}, {5, "1,a,A,aa,AA,aaa,AAA,aaaa,AAAA"}} {
		if got := impl.FormatWords(impl.LoopWords(parts, c.v, 4)); got != c.want {
			t.Errorf("LoopWords(%v, %d, 4) = %s, want %s", parts, c.v, got, c.want)
		}
	}
}

// A path leads to its end, and no word that does so is shorter.
func TestPathWordLeadsThere(t *testing.T) {
	for _, g := range largeFoldedGraphs() {
		d := wantDistances(g)
		for u := range g.Size {
			for v := range g.Size {
				w, ok := impl.PathWord(g, u, v)
				if ok != (d[u][v] < 1000) {
					t.Errorf("PathWord(%v, %d, %d) is %t", g, u, v, ok)
				}
				end, leads := impl.WalkWord(g, u, w)
				if ok && (!leads || end != v || len(w) != d[u][v] || !isReduced(w)) {
					t.Errorf("PathWord(%v, %d, %d) = %v leads to %d", g, u, v, w, end)
				}
			}
		}
	}
}

func TestLoopWords(t *testing.T) {
	for _, g := range slices.Concat(foldedGraphs(1, 2), foldedGraphs(2, 2), everyNth(foldedGraphs(3, 2), 31), everyNth(foldedGraphs(2, 3), 71), largeFoldedGraphs()) {
		for v := 0; v < g.Size; v += 1 + g.Size/3 {
			for _, most := range []int{0, 1, 2, 4} {
				checkLoops(t, g, v, most)
			}
		}
	}
	for _, g := range append(foldedGraphs(2, 1), foldedGraphs(3, 1)...) {
		checkLoops(t, g, 0, 3)
		checkLoops(t, g, 0, 4)
	}
}

// The lengths from 0 to 4 are valid, and all others give an empty list.
func TestLoopWordsMost(t *testing.T) {
	h := graphOf(2, 3, edge(0, 1, 1), edge(1, 2, 2), edge(2, 1, 0))
	for most, want := range []string{"1", "1", "1", "1,aba,ABA", "1,aba,ABA"} {
		if got := impl.FormatWords(impl.LoopWords(h, 0, most)); got != want {
			t.Errorf("LoopWords(%v, 0, %d) = %s, want %s", h, most, got, want)
		}
	}
	rose := ringGraph(1, 0, 0, 0)
	for most, want := range []int{1, 7, 37, 187, 937} {
		l := impl.LoopWords(rose, 0, most)
		if len(l) != want || !slices.IsSortedFunc(l, impl.CompareWords) {
			t.Errorf("LoopWords(%v, 0, %d) has %d words", rose, most, len(l))
		}
	}
	for _, most := range []int{math.MinInt, -1 << 32, -2, -1, 5, 6, 24, 1 << 32, 1<<32 + 1, math.MaxInt} {
		for _, g := range append(largeFoldedGraphs(), h, rose, graphOf(1, 1)) {
			if l := impl.LoopWords(g, 0, most); len(l) != 0 {
				t.Errorf("LoopWords(%v, 0, %d) = %v", g, most, l)
			}
		}
	}
}

// Lists of letters may be longer than words.
func TestWalksAlongLongLists(t *testing.T) {
	const n = 300000
	ring := ringGraph(maxVertices, 1, 7, 39)
	w := slices.Repeat([]int{1, 2, -3}, n)
	// Each round moves by 9 vertices.
	if end, ok := impl.WalkWord(ring, 3, w); !ok || end != (3+9*n)%maxVertices {
		t.Errorf("WalkWord = %d, %t", end, ok)
	}
	w = append(w, 0)
	if end, ok := impl.WalkWord(ring, 3, w); ok || end != -1 || impl.ReadLength(ring, 3, w) != 3*n {
		t.Errorf("WalkWord = %d, %t", end, ok)
	}
}

// Words and graphs with nothing in them are treated alike, whether their lists are nil or empty.
func TestWalksWithEmptyLists(t *testing.T) {
	for _, edges := range [][]impl.Edge{nil, {}} {
		g := graph{Rank: 2, Size: 1, Edges: edges}
		for _, w := range [][]int{nil, {}} {
			end, ok := impl.WalkWord(g, 0, w)
			if end != 0 || !ok || impl.ReadLength(g, 0, w) != 0 {
				t.Errorf("WalkWord(%v, 0, %v) = %d, %t", g, w, end, ok)
			}
		}
		path, ok := impl.PathWord(g, 0, 0)
		loops := impl.LoopWords(g, 0, 4)
		if !impl.IsFolded(g) || !impl.IsConnected(g) || len(path) != 0 || !ok || len(loops) != 1 || len(loops[0]) != 0 {
			t.Errorf("%v is not taken for the graph without edges", g)
		}
		checkList(t, impl.ReachedFrom(g, 0), []int{0}, "ReachedFrom", g)
	}
}

// Arguments keep their elements and unused capacity, and a change to a result changes no argument and no later result.
func TestWalksShareNoMemory(t *testing.T) {
	for _, original := range slices.Concat(foldedGraphs(2, 2), largeFoldedGraphs(), unfoldedGraphs(), invalidGraphs()) {
		g, memory := graphWithRoom(original)
		w, memoryOfW := withRoom(word("abAAbc"))
		wantMemory, wantMemoryOfW := slices.Clone(memory), slices.Clone(memoryOfW)
		calls := []func() []int{
			func() []int { return impl.ReachedFrom(g, 0) },
			func() []int { path, _ := impl.PathWord(g, 0, g.Size-1); return path },
			func() []int { path, _ := impl.PathWord(g, 0, 0); return path },
		}
		for i, call := range calls {
			got := call()
			want := slices.Clone(got)
			overwritten(got)
			checkList(t, call(), want, "the same call again", i, original)
		}
		impl.IsFolded(g)
		impl.IsConnected(g)
		impl.NextVertex(g, 0, 1)
		impl.WalkWord(g, 0, w)
		impl.ReadLength(g, 0, w)
		impl.LoopWords(g, 0, 2)
		if !slices.Equal(memory, wantMemory) {
			t.Errorf("the edges of %v have changed to %v", original, memory)
		}
		checkList(t, memoryOfW, wantMemoryOfW, "word", original)
	}
}

// No two words of one result share memory, not even in their unused capacity.
func TestLoopWordsShareNoMemory(t *testing.T) {
	for _, g := range []graph{ringGraph(1, 0, 0), ringGraph(2, 1, 0), graphOf(2, 3, edge(0, 1, 1), edge(1, 2, 2), edge(2, 1, 0))} {
		want := wantLoops(g, 0, 3)
		for i := range want {
			got := impl.LoopWords(g, 0, 3)
			overwritten(got[i])
			got[i] = want[i]
			if !equalLists(got, want) {
				t.Errorf("LoopWords(%v, 0, 3) = %v after word %d was overwritten", g, got, i)
			}
		}
	}
}
