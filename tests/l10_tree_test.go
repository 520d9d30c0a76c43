package tests

import (
	"math"
	"math/rand/v2"
	"slices"
	"strings"
	"sync"
	"testing"

	"loop.example/g02075/impl"
)

// Promise 5, as far as chapter 10 goes: a tree reaches every vertex, its words lead there, and every other edge makes a loop that the subgroup contains.
// The wanted results are computed here in the plainest way: from the first shortest words to all vertices, found by distances and not by a search.

// wantTreeWords returns the word of each vertex, and nothing if the graph is not folded.
func wantTreeWords(g graph) [][]int {
	if !wantIsFolded(g) {
		return nil
	}
	var l [][]int
	for v := range g.Size {
		w, _ := wantPath(g, 0, v)
		l = append(l, w)
	}
	return l
}

// endsWord tells whether the word of one vertex of an edge is that of the other one and the letter of the edge: through such edges the search finds vertices.
func endsWord(words [][]int, e impl.Edge) bool {
	from, to := words[e.From], words[e.To]
	return slices.Equal(to, append(slices.Clone(from), e.Letter)) || slices.Equal(from, append(slices.Clone(to), -e.Letter))
}

func wantLoopOf(words [][]int, e impl.Edge) []int {
	return wantProduct(words[e.From], []int{e.Letter}, wantInvert(words[e.To]))
}

func wantRank(g graph) int {
	if !wantIsCore(g) {
		return -1
	}
	words, rank := wantTreeWords(g), 0
	for _, e := range g.Edges {
		if !endsWord(words, e) {
			rank++
		}
	}
	return rank
}

func wantEuler(g graph) int {
	if !wantIsGraph(g) {
		return 0
	}
	return g.Size - len(g.Edges)
}

// drawnEdges writes edges as in FormatGraph.
func drawnEdges(s string) []impl.Edge {
	if s == "" {
		return nil
	}
	return drawn("3 40 " + s).Edges
}

func checkEdges(t *testing.T, got []impl.Edge, want []impl.Edge, call string, args ...any) {
	t.Helper()
	if !slices.Equal(got, want) {
		t.Errorf("%s of %v = %v, want %v", call, args, got, want)
	}
}

func checkNumbers(t *testing.T, g graph, rank int, euler int) {
	t.Helper()
	if got := impl.RankOf(g); got != rank {
		t.Errorf("RankOf(%v) = %d, want %d", g, got, rank)
	}
	if got := impl.EulerNumber(g); got != euler {
		t.Errorf("EulerNumber(%v) = %d, want %d", g, got, euler)
	}
}

func checkTree(t *testing.T, g graph) {
	t.Helper()
	words := wantTreeWords(g)
	var inTree, extra []impl.Edge
	for _, e := range g.Edges {
		if words == nil {
			checkList(t, impl.LoopOf(g, e), nil, "LoopOf", g, e)
			continue
		}
		checkList(t, impl.LoopOf(g, e), wantLoopOf(words, e), "LoopOf", g, e)
		if endsWord(words, e) {
			inTree = append(inTree, e)
		} else {
			extra = append(extra, e)
		}
	}
	checkEdges(t, impl.TreeEdges(g), inTree, "TreeEdges", g)
	checkEdges(t, impl.ExtraEdges(g), extra, "ExtraEdges", g)
	for v, w := range words {
		checkList(t, impl.TreeWord(g, v), w, "TreeWord", g, v)
	}
	checkNumbers(t, g, wantRank(g), wantEuler(g))
}

// checkNoTree expects the fixed results of the functions that need a folded graph.
func checkNoTree(t *testing.T, g graph) {
	t.Helper()
	checkEdges(t, impl.TreeEdges(g), nil, "TreeEdges", g.Rank, g.Size, len(g.Edges))
	checkEdges(t, impl.ExtraEdges(g), nil, "ExtraEdges", g.Rank, g.Size, len(g.Edges))
	for _, v := range append(strangeVertices(g), 0, 1, 2, 3, 39) {
		checkList(t, impl.TreeWord(g, v), nil, "TreeWord", g.Rank, g.Size, len(g.Edges), v)
	}
	for _, e := range append(everyNth(g.Edges, 1+len(g.Edges)/200), sampleEdges(2, 2)...) {
		checkList(t, impl.LoopOf(g, e), nil, "LoopOf", g.Rank, g.Size, len(g.Edges), e)
	}
	if got := impl.RankOf(g); got != -1 {
		t.Errorf("RankOf with rank %d, %d vertices, %d edges is %d", g.Rank, g.Size, len(g.Edges), got)
	}
}

// smallFoldedGraphs returns folded graphs, connected or not, cores or not.
func smallFoldedGraphs() []graph {
	return slices.Concat(foldedGraphs(1, 1), foldedGraphs(2, 1), foldedGraphs(3, 1), foldedGraphs(2, 2), foldedGraphs(3, 2), everyNth(foldedGraphs(2, 3), 2), foldedGraphs(1, 4), everyNth(foldedGraphs(2, 4), 211))
}

func allFoldedGraphs() []graph {
	return slices.Concat(smallFoldedGraphs(), largeFoldedGraphs(), foldedAmong(limitGraphs()), foldedAmong(overgrownGraphs(100)), foldedAmong(randomGraphs(100)), largeCores())
}

// coresToTest returns cores of all ranks, small and large ones.
func coresToTest() []graph {
	return slices.Concat(smallCores(1, 4), smallCores(2, 3), everyNth(smallCores(3, 2), 2), largeCores())
}

// passedEdges returns the edges that a word passes from the base on, in any direction.
func passedEdges(g graph, w []int) []impl.Edge {
	var passed []impl.Edge
	at := 0
	for _, letter := range w {
		next := wantNext(g, at, letter)
		e := edge(at, letter, next)
		if letter < 0 {
			e = edge(next, -letter, at)
		}
		passed = append(passed, e)
		at = next
	}
	return passed
}

func TestTreesOfFoldedGraphs(t *testing.T) {
	for _, g := range allFoldedGraphs() {
		checkTree(t, g)
	}
	for _, l := range everyNth(sampleLists(), 3) {
		if g, ok := wantSubgroup(3, l); ok {
			checkTree(t, g)
		}
	}
}

func TestTreeExamples(t *testing.T) {
	for _, c := range []struct {
		g      string
		inTree string
		extra  string
		words  string
		loops  string
	}{
		// One vertex.
		{"1 1", "", "", "1", "none"}, {"3 1", "", "", "1", "none"}, {"1 1 0a0", "", "0a0", "1", "a"}, {"2 1 0b0", "", "0b0", "1", "b"}, {"3 1 0a0 0b0 0c0", "", "0a0 0b0 0c0", "1", "a,b,c"},
		// Cores.
		{"2 2 0a1 0b1 1b0", "0a1", "0b1 1b0", "1,a", "bA,ab"},
		{"2 2 0a1 0b0 1a0 1b1", "0a1", "0b0 1a0 1b1", "1,a", "b,aa,abA"},
		{"2 3 0a1 1b2 2a0", "0a1 2a0", "1b2", "1,a,A", "aba"},
		{"1 3 0a1 1a2 2a0", "0a1 2a0", "1a2", "1,a,A", "aaa"},
		{"1 4 0a1 1a3 2a0 3a2", "0a1 1a3 2a0", "3a2", "1,a,A,aa", "aaaa"},
		{"2 4 0a1 1b3 2b0 3a2", "0a1 1b3 2b0", "3a2", "1,a,B,ab", "abab"},
		{"2 2 0a1 1b1", "0a1", "1b1", "1,a", "abA"},
		{"2 4 0a1 0b2 1a0 1b3 2a3 2b0 3a2 3b1", "0a1 0b2 1b3", "1a0 2a3 2b0 3a2 3b1", "1,a,b,ab", "aa,baBA,bb,abaB,abbA"},
		{"3 4 0a1 0b3 0c2 1b0 2a0 3c0", "0a1 0b3 2a0", "0c2 1b0 3c0", "1,a,A,b", "ca,ab,bc"},
		// The search tries the letters in order, not the edges, and comes backwards where an inverse is first.
		{"2 2 0b1 1a0", "1a0", "0b1", "1,A", "ba"}, {"3 2 0c1 1b0", "1b0", "0c1", "1,B", "cb"}, {"3 3 0c1 2b1 2c2", "0c1 2b1", "2c2", "1,c,cB", "cBcbC"},
		{"3 6 0a4 0b2 1b0 1c5 3a0 4b5 5a3 5c2", "0a4 0b2 1b0 3a0 4b5", "1c5 5a3 5c2", "1,B,b,A,a,ab", "BcBA,abaa,abcB"},
		// Folded graphs that are no cores: with leaves, with other numbers, trees.
		{"2 3 0a1 1b2", "0a1 1b2", "", "1,a,ab", "none"}, {"2 2 1a0", "1a0", "", "1,A", "none"}, {"2 3 0a2 1a0 2b1", "0a2 1a0", "2b1", "1,A,a", "aba"}, {"2 3 0a1 0b2 1a0", "0a1 0b2", "1a0", "1,a,b", "aa"},
		// Folded graphs that are not connected: there is no way to and from the other parts.
		{"2 2", "", "", "1,1", "none"}, {"2 2 1b1", "", "1b1", "1,1", "b"}, {"2 3 0b0 1a2 2a1", "", "0b0 1a2 2a1", "1,1,1", "b,a,a"},
		{"2 6 0a4 1a3 1b3 2b4 5a5", "0a4 2b4", "1a3 1b3 5a5", "1,1,aB,1,a,1", "a,b,a"}, {"2 3 0a1 1b1 2a2", "0a1", "1b1 2a2", "1,a,1", "abA,a"},
	} {
		g := drawn(c.g)
		checkEdges(t, impl.TreeEdges(g), drawnEdges(c.inTree), "TreeEdges", c.g)
		checkEdges(t, impl.ExtraEdges(g), drawnEdges(c.extra), "ExtraEdges", c.g)
		for v, w := range words(c.words) {
			checkList(t, impl.TreeWord(g, v), w, "TreeWord", c.g, v)
		}
		for _, e := range drawnEdges(c.inTree) {
			checkList(t, impl.LoopOf(g, e), nil, "LoopOf", c.g, e)
		}
		loops := listed(c.loops)
		for i, e := range drawnEdges(c.extra) {
			checkList(t, impl.LoopOf(g, e), loops[i], "LoopOf", c.g, e)
		}
	}
}

// The edge case of this chapter: a loop at the base. The tree does not have it, and it is its own loop.
func TestLoopAtTheBase(t *testing.T) {
	for _, g := range allFoldedGraphs() {
		for letter := 1; letter <= g.Rank; letter++ {
			e := edge(0, letter, 0)
			isThere := slices.Contains(g.Edges, e)
			if slices.Contains(impl.TreeEdges(g), e) || slices.Contains(impl.ExtraEdges(g), e) != isThere {
				t.Errorf("%v has the tree %v and the extra edges %v", g, impl.TreeEdges(g), impl.ExtraEdges(g))
			}
			want := []int{letter}
			if !isThere {
				want = nil
			}
			checkList(t, impl.LoopOf(g, e), want, "LoopOf", g, e)
		}
	}
	for _, c := range []struct {
		g     string
		extra string
		loops string
		rank  int
		euler int
	}{
		{"1 1 0a0", "0a0", "a", 1, 0}, {"2 1 0a0 0b0", "0a0 0b0", "a,b", 2, -1}, {"3 1 0b0 0c0", "0b0 0c0", "b,c", 2, -1}, {"3 1 0a0 0b0 0c0", "0a0 0b0 0c0", "a,b,c", 3, -2},
		{"2 2 0a0 0b1 1a1 1b0", "0a0 1a1 1b0", "a,baB,bb", 3, -2}, {"2 2 0a0 0b1 1a1", "0a0 1a1", "a,baB", 2, -1}, {"2 2 0a1 0b0 1b1", "0b0 1b1", "b,abA", 2, -1}, {"3 3 0a1 0c0 1a2 2b2", "0c0 2b2", "c,aabAA", 2, -1},
		// With a leaf, and with a part that is not connected with the base.
		{"2 2 0a0 0b1", "0a0", "a", -1, 0}, {"2 2 0a0", "0a0", "a", -1, 1}, {"2 2 0a0 0b0 1a1 1b1", "0a0 0b0 1a1 1b1", "a,b,a,b", -1, -2},
	} {
		g := drawn(c.g)
		checkEdges(t, impl.ExtraEdges(g), drawnEdges(c.extra), "ExtraEdges", c.g)
		loops := words(c.loops)
		for i, e := range drawnEdges(c.extra) {
			checkList(t, impl.LoopOf(g, e), loops[i], "LoopOf", c.g, e)
		}
		checkNumbers(t, g, c.rank, c.euler)
	}
}

// A loop at another vertex is its letter between the word that leads there and the inverse of that word.
func TestLoopsAtOtherVertices(t *testing.T) {
	for n := 1; n < maxVertices; n++ {
		line := lineGraph(3, n+1, 1, 2)
		for letter := 1; letter <= 3; letter++ {
			e := edge(n, letter, n)
			g, _ := wantAddEdge(line, e)
			if !wantIsFolded(g) {
				continue
			}
			there := slices.Repeat([]int{1, 2}, n)[:n]
			checkEdges(t, impl.TreeEdges(g), line.Edges, "TreeEdges", g)
			checkEdges(t, impl.ExtraEdges(g), []impl.Edge{e}, "ExtraEdges", g)
			checkList(t, impl.LoopOf(g, e), slices.Concat(there, []int{letter}, wantInvert(there)), "LoopOf", g, e)
			checkList(t, impl.TreeWord(g, n), there, "TreeWord", g, n)
			checkNumbers(t, g, 1, 0)
		}
	}
}

// Of several edges between the same vertices, the tree has the one whose letter, or inverse, is tried first.
func TestEdgesBetweenTheSameVertices(t *testing.T) {
	for _, c := range []struct {
		g      string
		inTree string
		loops  string
	}{
		{"1 2 0a1 1a0", "0a1", "aa"}, {"2 2 0a1 0b1", "0a1", "bA"}, {"2 2 0a1 1b0", "0a1", "ab"}, {"2 2 0b1 1a0", "1a0", "ba"}, {"2 2 1a0 1b0", "1a0", "Ab"}, {"2 2 0b1 1b0", "0b1", "bb"},
		{"3 2 0b1 0c1", "0b1", "cB"}, {"3 2 0c1 1b0", "1b0", "cb"}, {"3 2 0b1 1c0", "0b1", "bc"}, {"3 2 1b0 1c0", "1b0", "Bc"},
		{"2 2 0b1 1a0 1b0", "1a0", "ba,Ab"}, {"3 2 0b1 0c1 1a0", "1a0", "ba,ca"}, {"3 2 0a1 0b1 0c1 1a0 1b0 1c0", "0a1", "bA,cA,aa,ab,ac"},
		// Behind another edge.
		{"3 3 0c1 1a2 1b2", "0c1 1a2", "cbAC"}, {"3 3 0c1 1a2 2a1", "0c1 1a2", "caaC"}, {"3 3 0c1 1b2 2a1", "0c1 2a1", "cbaC"}, {"3 3 0c1 2a1 2b1", "0c1 2a1", "cAbC"},
	} {
		g := drawn(c.g)
		inTree := drawnEdges(c.inTree)
		extra := slices.DeleteFunc(slices.Clone(g.Edges), func(e impl.Edge) bool { return slices.Contains(inTree, e) })
		checkEdges(t, impl.TreeEdges(g), inTree, "TreeEdges", c.g)
		checkEdges(t, impl.ExtraEdges(g), extra, "ExtraEdges", c.g)
		loops := words(c.loops)
		for i, e := range extra {
			checkList(t, impl.LoopOf(g, e), loops[i], "LoopOf", c.g, e)
		}
	}
}

// A ring is passed from both sides: half of its vertices are found backwards, and the edge in the middle makes the loop around it.
func TestTreesOfRings(t *testing.T) {
	for size := 2; size <= maxVertices; size++ {
		g := ringGraph(size, 1)
		middle := size / 2
		for v := range size {
			want := slices.Repeat([]int{1}, v)
			if v > middle {
				want = slices.Repeat([]int{-1}, size-v)
			}
			checkList(t, impl.TreeWord(g, v), want, "TreeWord", g, v)
		}
		e := g.Edges[middle]
		checkEdges(t, impl.TreeEdges(g), slices.Concat(g.Edges[:middle], g.Edges[middle+1:]), "TreeEdges", g)
		checkEdges(t, impl.ExtraEdges(g), []impl.Edge{e}, "ExtraEdges", g)
		checkList(t, impl.LoopOf(g, e), slices.Repeat([]int{1}, size), "LoopOf", g, e)
	}
	// The longest line, forwards and backwards.
	line := lineGraph(3, maxVertices, 1, 2, 3)
	back := graphOf(3, maxVertices)
	for v := 1; v < maxVertices; v++ {
		back.Edges = append(back.Edges, edge(v, 1+v%3, v-1))
	}
	for _, g := range []graph{line, back} {
		checkEdges(t, impl.TreeEdges(g), g.Edges, "TreeEdges", g)
		checkEdges(t, impl.ExtraEdges(g), nil, "ExtraEdges", g)
		checkNumbers(t, g, -1, 1)
	}
	checkList(t, impl.TreeWord(line, 39), slices.Repeat([]int{1, 2, 3}, 13), "TreeWord", line, 39)
	checkList(t, impl.TreeWord(back, 39), slices.Repeat([]int{-2, -3, -1}, 13), "TreeWord", back, 39)
}

// The edges of the tree alone connect the base with all that the graph connects with it, on ways that are no longer, and there are no more of them than needed.
func TestTreeReachesEveryVertex(t *testing.T) {
	for _, g := range allFoldedGraphs() {
		tree := graphOf(g.Rank, g.Size, impl.TreeEdges(g)...)
		if !wantIsGraph(tree) {
			t.Errorf("TreeEdges(%v) = %v is not in order", g, tree.Edges)
			continue
		}
		inTree, inGraph := wantDistances(tree)[0], wantDistances(g)[0]
		if reached := len(wantReached(g, 0)); !slices.Equal(inTree, inGraph) || len(tree.Edges) != reached-1 {
			t.Errorf("TreeEdges(%v) = %v, which lead as far as %v", g, tree.Edges, inTree)
		}
		if reached := len(wantReached(g, 0)); reached == g.Size && !impl.IsTree(tree) {
			t.Errorf("TreeEdges(%v) = %v is no tree", g, tree.Edges)
		}
	}
}

func TestTreeWordsLeadThere(t *testing.T) {
	for _, g := range allFoldedGraphs() {
		tree := graphOf(g.Rank, g.Size, impl.TreeEdges(g)...)
		for v, n := range wantDistances(g)[0] {
			w := impl.TreeWord(g, v)
			if n == 1000 {
				checkList(t, w, nil, "TreeWord", g, v)
				continue
			}
			end, ok := wantWalk(g, 0, w)
			along, alsoOk := wantWalk(tree, 0, w)
			if !ok || end != v || !alsoOk || along != v || len(w) != n || !isReduced(w) {
				t.Errorf("TreeWord(%v, %d) = %v leads to %d, along the tree to %d", g, v, w, end, along)
			}
		}
	}
}

// Each edge is either in the tree or an extra one, and both lists are in order.
func TestEdgesOfTreeAndOtherEdges(t *testing.T) {
	for _, g := range allFoldedGraphs() {
		inTree, extra := impl.TreeEdges(g), impl.ExtraEdges(g)
		for _, l := range [][]impl.Edge{inTree, extra} {
			if !slices.IsSortedFunc(l, wantCompareEdges) {
				t.Errorf("the edges %v of %v are not in order", l, g)
			}
		}
		both := slices.Concat(inTree, extra)
		slices.SortFunc(both, wantCompareEdges)
		checkEdges(t, both, g.Edges, "TreeEdges and ExtraEdges", g)
	}
}

// An extra edge of a core makes a loop at the base that passes this edge once and all others along the tree; an edge of the tree makes none.
func TestEveryOtherEdgeMakesALoop(t *testing.T) {
	for _, g := range coresToTest() {
		inTree, extra := impl.TreeEdges(g), impl.ExtraEdges(g)
		for _, e := range extra {
			w := impl.LoopOf(g, e)
			if len(w) == 0 || !isReduced(w) || !wantContains(g, w) || !impl.Contains(g, w) {
				t.Errorf("LoopOf(%v, %v) = %v", g, e, w)
				continue
			}
			others := slices.DeleteFunc(passedEdges(g, w), func(f impl.Edge) bool { return slices.Contains(inTree, f) })
			checkEdges(t, others, []impl.Edge{e}, "other edges that are passed by LoopOf", g, e)
			// The letters before and behind the edge are those of the tree.
			i := slices.Index(passedEdges(g, w), e)
			if i < 0 {
				continue
			}
			there, back := impl.TreeWord(g, e.From), impl.TreeWord(g, e.To)
			checkList(t, w[:i], there, "the way to the edge in LoopOf", g, e)
			checkList(t, w[i+1:], wantInvert(back), "the way back in LoopOf", g, e)
		}
		for _, e := range inTree {
			checkList(t, impl.LoopOf(g, e), nil, "LoopOf", g, e)
		}
	}
}

// The loops generate the subgroup: they have its core, and short words in it are their products.
func TestLoopsGenerateTheSubgroup(t *testing.T) {
	n := 0
	for _, g := range coresToTest() {
		var loops [][]int
		for _, e := range impl.ExtraEdges(g) {
			loops = append(loops, impl.LoopOf(g, e))
		}
		if len(loops) != impl.RankOf(g) {
			t.Errorf("%v has %d loops and the rank %d", g, len(loops), impl.RankOf(g))
		}
		if h, ok := wantSubgroup(g.Rank, loops); ok {
			n++
			checkGraph(t, h, true, g, true, "SubgroupOf loops of", g)
		}
		for _, w := range everyNth(wantLoops(g, 0, 4), 5) {
			var product [][]int
			at := 0
			for _, letter := range w {
				next := wantNext(g, at, letter)
				if letter > 0 {
					product = append(product, impl.LoopOf(g, edge(at, letter, next)))
				} else {
					product = append(product, wantInvert(impl.LoopOf(g, edge(next, -letter, at))))
				}
				at = next
			}
			checkList(t, wantProduct(product...), w, "the product of loops", g)
		}
	}
	if n < 100 {
		t.Errorf("only %d subgroups are generated by their loops", n)
	}
}

// An edge that the graph does not have makes no loop, even if it can be passed the other way, with its inverse letter or with another letter.
func TestLoopsOfEdgesThatAreNotThere(t *testing.T) {
	for _, g := range slices.Concat(foldedGraphs(2, 2), everyNth(foldedGraphs(3, 2), 5), everyNth(foldedGraphs(2, 3), 9), everyNth(largeFoldedGraphs(), 3), everyNth(largeCores(), 5)) {
		edges := sampleEdges(g.Rank, min(g.Size, 3))
		for _, e := range g.Edges {
			edges = append(edges, edge(e.To, e.Letter, e.From), edge(e.To, -e.Letter, e.From), edge(e.From, -e.Letter, e.To), edge(e.From, e.Letter%3+1, e.To), edge(e.From, e.Letter, e.To+1), edge(e.From-1, e.Letter, e.To), edge(e.From+g.Size, e.Letter, e.To), edge(e.From, e.Letter, e.To-g.Size))
		}
		for _, e := range edges {
			if !slices.Contains(g.Edges, e) {
				checkList(t, impl.LoopOf(g, e), nil, "LoopOf", g, e)
			}
		}
	}
	for _, c := range []struct {
		g string
		e impl.Edge
	}{
		{"2 1", edge(0, 1, 0)}, {"2 1 0a0", edge(0, 2, 0)}, {"2 1 0a0", edge(0, -1, 0)}, {"2 2 0a1 0b1 1b0", edge(1, 1, 0)}, {"2 2 0a1 0b1 1b0", edge(1, -1, 0)}, {"2 2 0a1 0b1 1b0", edge(0, 1, 0)}, {"2 2 0a1 0b1 1b0", edge(0, 3, 1)}, {"2 2 0a1 0b1 1b0", edge(0, 0, 0)}, {"2 2 0a1 0b1 1b0", edge(0, 2, 2)}, {"2 2 0a1 0b1 1b0", edge(-1, 2, 1)}, {"2 2 0a1 0b1 1b0", edge(math.MinInt, math.MinInt, math.MinInt)}, {"2 2 0a1 0b1 1b0", edge(math.MaxInt, math.MaxInt, math.MaxInt)},
	} {
		checkList(t, impl.LoopOf(drawn(c.g), c.e), nil, "LoopOf", c.g, c.e)
	}
}

// The base and vertices that cannot be reached have the empty word, and so have numbers that are no vertices.
func TestVerticesWithTheEmptyWord(t *testing.T) {
	for _, g := range allFoldedGraphs() {
		checkList(t, impl.TreeWord(g, 0), nil, "TreeWord", g, 0)
		for _, v := range strangeVertices(g) {
			if !isThere(g, v) {
				checkList(t, impl.TreeWord(g, v), nil, "TreeWord", g, v)
			}
		}
		reached := wantReached(g, 0)
		for v := 1; v < g.Size; v++ {
			if w := impl.TreeWord(g, v); len(w) > 0 != slices.Contains(reached, v) {
				t.Errorf("TreeWord(%v, %d) = %v", g, v, w)
			}
		}
	}
}

func TestTreesOfGraphsThatAreNotFolded(t *testing.T) {
	for _, g := range slices.Concat(unfoldedGraphs(), slices.DeleteFunc(slices.Concat(smallGraphs(), randomGraphs(50)), wantIsFolded)) {
		checkNoTree(t, g)
		if got := impl.EulerNumber(g); got != g.Size-len(g.Edges) {
			t.Errorf("EulerNumber(%v) = %d", g, got)
		}
	}
}

func TestTreesOfGraphsThatAreNotValid(t *testing.T) {
	for _, g := range invalidToFold() {
		checkNoTree(t, g)
		if got := impl.EulerNumber(g); got != 0 {
			t.Errorf("EulerNumber with rank %d, %d vertices, %d edges is %d", g.Rank, g.Size, len(g.Edges), got)
		}
	}
}

// A graph that is no core has no rank, but all else if it is folded.
func TestTreesOfGraphsThatAreNoCores(t *testing.T) {
	for _, g := range noCores() {
		if got := impl.RankOf(g); got != -1 {
			t.Errorf("RankOf with rank %d, %d vertices, %d edges is %d", g.Rank, g.Size, len(g.Edges), got)
		}
		if wantIsFolded(g) {
			checkTree(t, g)
		}
	}
}

func TestEulerNumber(t *testing.T) {
	for _, g := range slices.Concat(smallGraphs(), limitGraphs(), largeFoldedGraphs(), unfoldedGraphs(), invalidGraphs(), randomGraphs(50)) {
		if got, want := impl.EulerNumber(g), wantEuler(g); got != want {
			t.Errorf("EulerNumber(%v) = %d, want %d", g, got, want)
		}
	}
	for _, c := range []struct {
		g    graph
		want int
	}{
		{graphOf(1, 1), 1}, {graphOf(3, 1), 1}, {graphOf(2, 5), 5}, {graphOf(1, maxVertices), 40}, {ringGraph(maxVertices, 1), 0}, {ringGraph(maxVertices, 1, 2, 3), -80}, {ringGraph(1, 0, 0), -1}, {lineGraph(1, maxVertices, 1), 1},
		{graphOf(1, 11, edgesOfAll(1, 11)[1:]...), -109}, {graphOf(1, 11, edgesOfAll(1, 11)...), 0}, {graph{}, 0}, {graphOf(0, 7), 0}, {graphOf(4, 7), 0}, {graphOf(2, 41), 0}, {graphOf(2, -3), 0}, {graphOf(2, math.MinInt, edge(0, 1, 0)), 0}, {graphOf(2, 2, edge(0, 1, 2)), 0},
	} {
		if got := impl.EulerNumber(c.g); got != c.want {
			t.Errorf("EulerNumber(%v) = %d, want %d", c.g, got, c.want)
		}
	}
}

func TestRankOfKnownSubgroups(t *testing.T) {
	for _, c := range []struct {
		rank       int
		generators string
		want       int
	}{
		{1, "none", 0}, {3, "1,1", 0}, {1, "a", 1}, {1, "aaaa,aaaaaa", 1}, {2, "a,b", 2}, {2, "a,ab", 2}, {2, "aab,ab", 2}, {3, "a,b,c", 3}, {3, "ab,bc,c", 3}, {3, "ab,bc,ca", 3},
		{2, "abab", 1}, {2, "abA", 1}, {2, "abA,abbA", 1}, {2, "aa,aaa", 1}, {2, "ab,BA", 1}, {3, "abc,bca", 2}, {3, "abc,abcabc,CBA", 1},
		{2, "ab,aB", 2}, {2, "ab,aB,bb", 2}, {2, "a,abA", 2}, {2, "aa,bb", 2}, {2, "aa,bb,ab", 3}, {2, "a,b,ab,ba,aa,bb", 2}, {2, "b,abA,aabAA", 3}, {2, "b,abA,aabAA,AbA", 3}, {2, "b,abA,aabAA,Aba", 4}, {3, "aa,ab,ac,aB,aC", 5},
		{2, "aa,bb,baBA,abaB,abbA", 5}, {2, "aB,babb,bbab,bbba,bbbb", 5}, {2, "abAB,abbABB,aabAAB", 3}, {2, "abAB,bABa", 2},
	} {
		g := generatedBy(c.rank, c.generators)
		if got := impl.RankOf(g); got != c.want {
			t.Errorf("RankOf of the subgroup of %s is %d, want %d", c.generators, got, c.want)
		}
	}
}

// Where all letters can be read everywhere, the rank is that of Schreier.
func TestRankForFiniteIndex(t *testing.T) {
	n := 0
	for _, g := range slices.Concat(coresToTest(), everyNth(smallCores(2, 4), 3)) {
		if len(g.Edges) != g.Rank*g.Size {
			continue
		}
		n++
		checkNumbers(t, g, g.Size*(g.Rank-1)+1, g.Size*(1-g.Rank))
	}
	if n < 50 {
		t.Errorf("there are only %d subgroups of finite index", n)
	}
}

// The rank is at most the number of generators, and all conjugates have the same one.
func TestRankOfConjugates(t *testing.T) {
	r := rand.New(rand.NewPCG(10, 1))
	for i := range 200 {
		rank := i%3 + 1
		var l [][]int
		for range r.IntN(maxWords + 1) {
			l = append(l, wantReduced(randomLetters(r, rank, r.IntN(6))))
		}
		g, ok := wantSubgroup(rank, l)
		if !ok {
			continue
		}
		n := impl.RankOf(g)
		if n < 0 || n > len(l) {
			t.Errorf("RankOf of the subgroup of %v is %d", l, n)
		}
		x := randomLetters(r, rank, 1+r.IntN(3))
		for k, w := range l {
			l[k] = wantProduct(wantInvert(x), w, x)
		}
		if h, ok := wantSubgroup(rank, l); ok && impl.RankOf(h) != n {
			t.Errorf("RankOf of the subgroup of %v is %d, but that of a conjugate %d", l, impl.RankOf(h), n)
		}
	}
}

// Lists with nothing in them are treated alike, whether they are nil or empty.
func TestTreesWithEmptyLists(t *testing.T) {
	for _, edges := range [][]impl.Edge{nil, {}} {
		for size := 1; size <= maxVertices; size += 13 {
			g := graph{Rank: 2, Size: size, Edges: edges}
			checkEdges(t, impl.TreeEdges(g), nil, "TreeEdges", g)
			checkEdges(t, impl.ExtraEdges(g), nil, "ExtraEdges", g)
			checkList(t, impl.TreeWord(g, 0), nil, "TreeWord", g, 0)
			checkList(t, impl.LoopOf(g, edge(0, 1, 0)), nil, "LoopOf", g)
			rank := -1
			if size == 1 {
				rank = 0
			}
			checkNumbers(t, g, rank, size)
		}
	}
}

// Arguments keep their elements and unused capacity, and a change to a result changes no argument and no later result.
func TestTreesShareNoMemory(t *testing.T) {
	for _, original := range slices.Concat(everyNth(smallFoldedGraphs(), 7), largeFoldedGraphs(), everyNth(largeCores(), 3), unfoldedGraphs(), invalidGraphs()) {
		g, memory := graphWithRoom(original)
		wantMemory := slices.Clone(memory)
		for range 2 {
			checkTree(t, g)
			for _, edges := range [][]impl.Edge{impl.TreeEdges(g), impl.ExtraEdges(g)} {
				overwrittenGraph(graph{Edges: edges})
			}
			for _, e := range append(slices.Clone(original.Edges), edge(0, 1, 0)) {
				overwritten(impl.LoopOf(g, e))
				overwritten(impl.TreeWord(g, e.To))
			}
		}
		if !slices.Equal(memory, wantMemory) {
			t.Errorf("the edges of %v have changed to %v", original, memory)
		}
	}
}

// Calls at the same time have no state in common, even for the same graph.
func TestTreesAtTheSameTime(t *testing.T) {
	cores := everyNth(largeCores(), 4)
	var texts [8][]string
	var group sync.WaitGroup
	for i := range texts {
		group.Go(func() {
			for _, g := range cores {
				var parts []string
				for _, e := range impl.ExtraEdges(g) {
					parts = append(parts, wantFormatWord(impl.LoopOf(g, e)))
				}
				texts[i] = append(texts[i], strings.Join(parts, ","))
			}
		})
	}
	group.Wait()
	for i := range texts {
		if !slices.Equal(texts[i], texts[0]) {
			t.Errorf("calls at the same time differ: %d", i)
		}
	}
	for _, g := range cores {
		checkTree(t, g)
	}
}
