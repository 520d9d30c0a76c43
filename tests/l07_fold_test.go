package tests

import (
	"math"
	"math/rand/v2"
	"slices"
	"strconv"
	"strings"
	"sync"
	"testing"

	"loop.example/g02075/impl"
)

// Promise 3, as far as chapter 7 goes: folding ends in a folded graph that does not depend on the order, each fold takes one vertex, and folds can be replayed.
// The wanted results are computed here in the plainest way, from the definitions of the chapter.

type fold = impl.Fold

func foldOf(kept int, dropped int) fold {
	return fold{Kept: kept, Dropped: dropped}
}

// folds writes a list of folds as in FormatFolds, spelt out so that it does not depend on it.
func folds(s string) []fold {
	var l []fold
	for _, part := range strings.Fields(s) {
		kept, dropped, _ := strings.Cut(part, "=")
		k, _ := strconv.Atoi(kept)
		d, _ := strconv.Atoi(dropped)
		l = append(l, foldOf(k, d))
	}
	return l
}

// drawn writes a valid graph as in FormatGraph.
func drawn(s string) graph {
	g, ok := wantParseGraph(s)
	if !ok {
		panic(s + " is no graph")
	}
	return g
}

func wantPossible(g graph) []fold {
	if !wantIsGraph(g) {
		return nil
	}
	var l []fold
	for i := range g.Edges {
		for k := i + 1; k < len(g.Edges); k++ {
			a, b := g.Edges[i], g.Edges[k]
			if a.Letter == b.Letter && a.From == b.From {
				l = append(l, foldOf(min(a.To, b.To), max(a.To, b.To)))
			}
			if a.Letter == b.Letter && a.To == b.To {
				l = append(l, foldOf(min(a.From, b.From), max(a.From, b.From)))
			}
		}
	}
	return l
}

// wantMerge renames one vertex, then the ones behind it one by one, and adds the edges one by one.
func wantMerge(g graph, f fold) (graph, bool) {
	if !wantIsGraph(g) || f.Kept < 0 || f.Kept >= f.Dropped || !isThere(g, f.Dropped) {
		return g, false
	}
	edges := slices.Clone(g.Edges)
	rename := func(from int, to int) {
		for i := range edges {
			if edges[i].From == from {
				edges[i].From = to
			}
			if edges[i].To == from {
				edges[i].To = to
			}
		}
	}
	rename(f.Dropped, f.Kept)
	for v := f.Dropped + 1; v < g.Size; v++ {
		rename(v, v-1)
	}
	merged := graphOf(g.Rank, g.Size-1)
	for _, e := range edges {
		if !slices.Contains(merged.Edges, e) {
			merged.Edges = append(merged.Edges, e)
		}
	}
	slices.SortFunc(merged.Edges, wantCompareEdges)
	return merged, true
}

func wantFoldInOrder(g graph, choices []int) (graph, []fold) {
	var l []fold
	for {
		possible := wantPossible(g)
		n := len(possible)
		if n == 0 {
			return g, l
		}
		at := 0
		if i := len(l); i < len(choices) && choices[i] >= 0 {
			at = choices[i] % n
		}
		g, _ = wantMerge(g, possible[at])
		l = append(l, possible[at])
	}
}

func wantReplay(g graph, l []fold) (graph, bool) {
	if !wantIsGraph(g) {
		return g, false
	}
	now := g
	for _, f := range l {
		if !slices.Contains(wantPossible(now), f) {
			return g, false
		}
		now, _ = wantMerge(now, f)
	}
	return now, true
}

// wantFolded joins the vertices of a valid graph that must be the same, whatever the order, and numbers what is left by the least vertices.
func wantFolded(g graph) graph {
	least := make([]int, g.Size)
	for v := range least {
		least[v] = v
	}
	join := func(u int, v int) bool {
		a, b := min(least[u], least[v]), max(least[u], least[v])
		for w := range least {
			if least[w] == b {
				least[w] = a
			}
		}
		return a != b
	}
	for isChanged := true; isChanged; {
		isChanged = false
		for _, a := range g.Edges {
			for _, b := range g.Edges {
				if a.Letter == b.Letter && least[a.From] == least[b.From] && join(a.To, b.To) {
					isChanged = true
				}
				if a.Letter == b.Letter && least[a.To] == least[b.To] && join(a.From, b.From) {
					isChanged = true
				}
			}
		}
	}
	left := slices.Compact(slices.Sorted(slices.Values(least)))
	folded := graphOf(g.Rank, len(left))
	for _, e := range g.Edges {
		folded.Edges = append(folded.Edges, edge(slices.Index(left, least[e.From]), e.Letter, slices.Index(left, least[e.To])))
	}
	slices.SortFunc(folded.Edges, wantCompareEdges)
	folded.Edges = slices.Compact(folded.Edges)
	return folded
}

func wantFormatFolds(l []fold) string {
	if len(l) == 0 {
		return "none"
	}
	s := ""
	for _, f := range l {
		s += " " + strconv.Itoa(f.Kept) + "=" + strconv.Itoa(f.Dropped)
	}
	return s[1:]
}

// randomGraphs returns valid graphs of all sizes, the same ones each time.
func randomGraphs(n int) []graph {
	r := rand.New(rand.NewPCG(7, 1))
	var l []graph
	for i := range n {
		rank, size := 1+i%3, 1+i%maxVertices
		g := graphOf(rank, size)
		for range r.IntN(min(2*size, maxEdges) + 2) {
			e := edge(r.IntN(size), 1+r.IntN(rank), r.IntN(size))
			if !slices.Contains(g.Edges, e) {
				g.Edges = append(g.Edges, e)
			}
		}
		slices.SortFunc(g.Edges, wantCompareEdges)
		l = append(l, g)
	}
	return l
}

// sampleFlowers returns the flowers of many lists of words, with all ranks and up to the most letters.
func sampleFlowers() []graph {
	r := rand.New(rand.NewPCG(7, 2))
	lists := slices.Concat(wordLists(reducedWords(2, 2), 2), wordLists(reducedWords(3, 1), 3), limitLists())
	for i := range 150 {
		var l [][]int
		for range 1 + i%maxWords {
			l = append(l, wantReduced(randomLetters(r, 1+i%3, r.IntN(13))))
		}
		lists = append(lists, l)
	}
	var flowers []graph
	for _, l := range lists {
		for rank := 1; rank <= 3; rank++ {
			if g, ok := wantFlower(rank, l); ok {
				flowers = append(flowers, g)
				break
			}
		}
	}
	return flowers
}

func randomLetters(r *rand.Rand, rank int, n int) []int {
	var w []int
	for range n {
		letter := 1 + r.IntN(rank)
		if r.IntN(2) == 0 {
			letter = -letter
		}
		w = append(w, letter)
	}
	return w
}

// graphsToFold returns valid graphs, folded or not, connected or not, small and large.
func graphsToFold() []graph {
	return slices.Concat(smallGraphs(), everyNth(allGraphs(3, 2), 5), limitGraphs(), unfoldedGraphs(), largeFoldedGraphs(), randomGraphs(200), everyNth(sampleFlowers(), 3))
}

// unfoldableGraphs returns folded graphs, which have no folds.
func unfoldableGraphs() []graph {
	return slices.Concat(foldedGraphs(2, 2), everyNth(foldedGraphs(1, 4), 3), largeFoldedGraphs(), []graph{graphOf(1, 1), graphOf(3, maxVertices), ringGraph(1, 0, 0, 0)})
}

// invalidToFold returns graphs that are not valid, some of which would have folds if they were.
func invalidToFold() []graph {
	return append(invalidGraphs(),
		graphOf(1, 2, edge(0, 1, 1), edge(0, 1, 0)),
		graphOf(2, 3, edge(0, 1, 1), edge(0, 1, 2), edge(0, 1, 2)),
		graphOf(2, 3, edge(0, 1, 1), edge(0, 1, 2), edge(3, 1, 0)),
		graphOf(2, 3, edge(0, 3, 1), edge(0, 3, 2)),
		graphOf(2, 3, edge(0, -1, 1), edge(0, -1, 2)),
		graphOf(0, 3, edge(0, 1, 1), edge(0, 1, 2)),
		graphOf(4, 3, edge(0, 1, 1), edge(0, 1, 2)),
		graphOf(2, 41, edge(0, 1, 1), edge(0, 1, 2)),
		graphOf(2, math.MaxInt, edge(0, 1, 1), edge(0, 1, 2)),
		graphOf(2, math.MaxInt, edge(0, 1, math.MaxInt-1), edge(1, 1, math.MaxInt-1)),
		graphOf(2, 2, make([]impl.Edge, 100000)...),
	)
}

// strangeFolds returns folds that merge no two vertices of a graph, in each way and, as far as possible, in one way only.
func strangeFolds(g graph) []fold {
	last := max(g.Size, 1) - 1
	l := folds("0=0 1=1 1=0 2=1 2=0 -1=0 -1=1 -2=-1 -1=-1 0=-1 1=-1")
	l = append(l, foldOf(last, last), foldOf(last, 0), foldOf(-1, last), foldOf(math.MinInt, 0), foldOf(math.MinInt, last), foldOf(math.MinInt, math.MaxInt), foldOf(math.MaxInt, math.MinInt), foldOf(math.MinInt, math.MinInt), foldOf(math.MaxInt, math.MaxInt), foldOf(last, math.MinInt))
	for _, n := range []int{g.Size, g.Size + 1, maxVertices, maxVertices + 1, 1 << 32, math.MaxInt} {
		if !isThere(g, n) {
			l = append(l, foldOf(0, n), foldOf(last, n), foldOf(g.Size, n), foldOf(-1, n), foldOf(n, 0), foldOf(n-1, n))
		}
	}
	return slices.DeleteFunc(l, func(f fold) bool {
		return isThere(g, f.Kept) && isThere(g, f.Dropped) && f.Kept < f.Dropped
	})
}

// sampleChoices returns lists of choices with missing, negative and large ones.
func sampleChoices() [][]int {
	return append(listsOver([]int{0, 1, 3}, 2), []int{-1}, []int{-1, -2, -3}, []int{-1, 1}, []int{1, -1, 1}, []int{math.MinInt, 2}, []int{math.MaxInt, math.MaxInt, math.MaxInt - 1}, []int{2, 1, 5, 0, 3}, []int{7, 7, 7, 7, 7, 7, 7, 7, 7}, slices.Repeat([]int{11, 5, -4, 100000}, 15))
}

func checkFoldLists(t *testing.T, got []fold, want []fold, call string, args ...any) {
	t.Helper()
	if !slices.Equal(got, want) {
		t.Errorf("%s of %v has the folds %v, want %v", call, args, got, want)
	}
}

func checkFirst(t *testing.T, g graph) {
	t.Helper()
	var want fold
	possible := wantPossible(g)
	if len(possible) > 0 {
		want = possible[0]
	}
	if got, ok := impl.FirstFold(g); got != want || ok != (len(possible) > 0) {
		t.Errorf("FirstFold(%v) = %v, %t, want %v of %v", g, got, ok, want, possible)
	}
	wantOnce := g
	if len(possible) > 0 {
		wantOnce, _ = wantMerge(g, want)
	}
	once, f, ok := impl.FoldOnce(g)
	checkGraph(t, once, ok, wantOnce, len(possible) > 0, "FoldOnce", g)
	checkFoldLists(t, []fold{f}, []fold{want}, "FoldOnce", g)
}

func checkMerge(t *testing.T, g graph, f fold) {
	t.Helper()
	got, ok := impl.MergeVertices(g, f)
	want, wantOk := wantMerge(g, f)
	checkGraph(t, got, ok, want, wantOk, "MergeVertices", g, f)
}

func checkFoldInOrder(t *testing.T, g graph, choices []int) {
	t.Helper()
	got, l := impl.FoldInOrder(g, choices)
	want, wantFolds := wantFoldInOrder(g, choices)
	checkGraph(t, got, true, want, true, "FoldInOrder", g, choices)
	checkFoldLists(t, l, wantFolds, "FoldInOrder", g, choices)
}

func checkFoldAll(t *testing.T, g graph) {
	t.Helper()
	got, l := impl.FoldAll(g)
	want, wantFolds := wantFoldInOrder(g, nil)
	checkGraph(t, got, true, want, true, "FoldAll", g)
	checkFoldLists(t, l, wantFolds, "FoldAll", g)
}

func checkReplay(t *testing.T, g graph, l []fold) {
	t.Helper()
	got, ok := impl.ReplayFolds(g, l)
	want, wantOk := wantReplay(g, l)
	checkGraph(t, got, ok, want, wantOk, "ReplayFolds", g, l)
}

func TestFirstFold(t *testing.T) {
	for _, g := range graphsToFold() {
		checkFirst(t, g)
	}
}

func TestFirstFoldExamples(t *testing.T) {
	for _, c := range []struct {
		g    string
		want string
	}{
		{"2 3 0a1 0a2 0b2 1b0", "1=2"},
		{"1 2 0a0 0a1", "0=1"},
		{"1 2 0a0 1a0", "0=1"},
		{"1 2 0a1 1a1", "0=1"},
		{"1 2 1a0 1a1", "0=1"},
		{"2 3 1a0 2a0", "1=2"},
		{"2 3 0b1 0b2", "1=2"},
		{"2 3 1b0 2b0", "1=2"},
		{"3 3 2c0 2c1", "0=1"},
		{"3 3 0c2 1c2", "0=1"},
		{"1 4 3a0 3a2", "0=2"},
		{"1 4 1a3 2a3", "1=2"},
		{"1 4 0a3 1a2 1a3", "0=1"},
		{"1 4 0a2 0a3 1a2", "2=3"},
		{"2 4 0a1 0b1 0b2 2a1", "0=2"},
		{"2 4 0a1 1b2 1b3 2a1", "0=2"},
		{"2 4 0b1 0b3 1a2 3a2", "1=3"},
		{"2 4 0a2 0b1 0b3 1a2 2a1 2a3", "0=1"},
		{"1 3 0a0 1a2 2a1 2a2", "1=2"},
		{"1 4 0a3 1a2 2a2 3a3", "0=3"},
		{"2 2 0a0 0b0 1a1 1b1", "none"},
		{"2 2 0a1 0b1", "none"},
		{"3 2 0a1 0b1 0c1", "none"},
		{"2 3 0a1 0b2", "none"},
		{"2 3 0a2 1b2", "none"},
		{"1 2 0a1 1a0", "none"},
		{"1 4 0a1 2a3", "none"},
		{"1 1", "none"},
		{"1 1 0a0", "none"},
		{"3 40", "none"},
	} {
		g := drawn(c.g)
		f, ok := impl.FirstFold(g)
		if got := wantFormatFolds([]fold{f}); ok && got != c.want || ok != (c.want != "none") || !ok && f != (fold{}) {
			t.Errorf("FirstFold(%s) = %v, %t, want %s", c.g, f, ok, c.want)
		}
	}
}

// All pairs of vertices of small graphs, and some of large ones, whether a fold of them is possible or not.
func TestMergeVertices(t *testing.T) {
	for _, g := range slices.Concat(smallGraphs(), everyNth(allGraphs(3, 2), 11), everyNth(randomGraphs(36), 2), unfoldedGraphs()[:9]) {
		for kept := -2; kept <= g.Size+1; kept++ {
			for dropped := -2; dropped <= g.Size+1; dropped++ {
				checkMerge(t, g, foldOf(kept, dropped))
			}
		}
	}
	for _, g := range slices.Concat(limitGraphs(), largeFoldedGraphs(), randomGraphs(160)) {
		last := g.Size - 1
		for _, f := range []fold{foldOf(0, 1), foldOf(0, last), foldOf(last-1, last), foldOf(1, 2), foldOf(last/2, last), foldOf(0, last/2), foldOf(last/3, last/2)} {
			checkMerge(t, g, f)
		}
	}
}

func TestMergeVerticesExamples(t *testing.T) {
	for _, c := range []struct {
		g    string
		f    fold
		want string
	}{
		{"2 3 0a1 0a2 0b2 1b0", foldOf(0, 1), "2 2 0a0 0a1 0b0 0b1"},
		{"2 3 0a1 0a2 0b2 1b0", foldOf(0, 2), "2 2 0a0 0a1 0b0 1b0"},
		{"2 3 0a1 0a2 0b2 1b0", foldOf(1, 2), "2 2 0a1 0b1 1b0"},
		{"1 2", foldOf(0, 1), "1 1"},
		{"1 2 0a1", foldOf(0, 1), "1 1 0a0"},
		{"1 2 1a0", foldOf(0, 1), "1 1 0a0"},
		{"1 2 0a0 0a1 1a0 1a1", foldOf(0, 1), "1 1 0a0"},
		{"2 2 0a1 0b0 1a0 1b1", foldOf(0, 1), "2 1 0a0 0b0"},
		{"1 5 0a1 1a2 2a3 3a4", foldOf(1, 3), "1 4 0a1 1a2 1a3 2a1"},
		{"1 5 0a1 1a2 2a3 3a4", foldOf(0, 4), "1 4 0a1 1a2 2a3 3a0"},
		{"1 5 0a1 1a2 2a3 3a4", foldOf(0, 1), "1 4 0a0 0a1 1a2 2a3"},
		{"1 5 0a1 1a2 2a3 3a4", foldOf(3, 4), "1 4 0a1 1a2 2a3 3a3"},
		{"3 5 0a4 1b4 2c4 3a4", foldOf(2, 3), "3 4 0a3 1b3 2a3 2c3"},
		{"3 5 4a0 4a2 4a3 4b1", foldOf(2, 3), "3 4 3a0 3a2 3b1"},
		{"3 5 0a1 2b3", foldOf(1, 4), "3 4 0a1 2b3"},
	} {
		got, ok := impl.MergeVertices(drawn(c.g), c.f)
		if s := wantFormatGraph(got); s != c.want || !ok {
			t.Errorf("MergeVertices(%s, %v) = %s, %t, want %s", c.g, c.f, s, ok, c.want)
		}
	}
}

// Kept is negative or not less than Dropped, or there is no vertex Dropped: in each way the graph is unchanged.
func TestFoldsOfNoTwoVertices(t *testing.T) {
	for _, g := range slices.Concat(smallGraphs(), limitGraphs(), unfoldedGraphs(), largeFoldedGraphs()) {
		for _, f := range strangeFolds(g) {
			got, ok := impl.MergeVertices(g, f)
			checkGraph(t, got, ok, g, false, "MergeVertices", g, f)
			got, ok = impl.ReplayFolds(g, []fold{f})
			checkGraph(t, got, ok, g, false, "ReplayFolds", g, f)
		}
	}
	g := drawn("1 2 0a0 0a1")
	for _, c := range []struct {
		f    fold
		want bool
	}{
		{foldOf(0, 1), true}, {foldOf(-1, 1), false}, {foldOf(-1, 0), false}, {foldOf(0, 0), false}, {foldOf(1, 1), false}, {foldOf(1, 0), false}, {foldOf(0, 2), false}, {foldOf(1, 2), false},
		{foldOf(0, math.MaxInt), false}, {foldOf(math.MinInt, 1), false}, {foldOf(0, 1+1<<32), false}, {foldOf(-1<<32, 1), false}, {foldOf(0, -1), false}, {fold{}, false},
	} {
		if _, ok := impl.MergeVertices(g, c.f); ok != c.want {
			t.Errorf("MergeVertices(%v, %v) is %t", g, c.f, ok)
		}
		if _, ok := impl.ReplayFolds(g, []fold{c.f}); ok != c.want {
			t.Errorf("ReplayFolds(%v, %v) is %t", g, c.f, ok)
		}
	}
}

func TestFoldAll(t *testing.T) {
	for _, g := range slices.Concat(graphsToFold(), sampleFlowers()) {
		checkFoldAll(t, g)
	}
}

func TestFoldAllExamples(t *testing.T) {
	for _, c := range []struct {
		g     string
		want  string
		folds string
	}{
		{"2 3 0a1 0a2 0b2 1b0", "2 2 0a1 0b1 1b0", "1=2"},
		{"2 4 0a1 0a2 0b3 1b2 3b0", "2 3 0a1 0b2 1b1 2b0", "1=2"},
		{"1 5 0a1 0a2 0a3 0a4", "1 2 0a1", "1=2 1=2 1=2"},
		{"1 5 1a0 2a0 3a0 4a0", "1 2 1a0", "1=2 1=2 1=2"},
		{"1 5 0a1 0a3 1a2 3a4", "1 3 0a1 1a2", "1=3 2=3"},
		{"1 4 0a1 0a3 1a2 2a0 3a0", "1 1 0a0", "1=3 0=2 0=1"},
		{"1 4 0a3 1a2 1a3", "1 2 0a1", "0=1 1=2"},
		{"2 5 0a1 0a2 1b3 2b4", "2 3 0a1 1b2", "1=2 2=3"},
		{"3 4 0a0 0b0 1c2 1c3", "3 3 0a0 0b0 1c2", "2=3"},
		{"2 2 0a1 1b0", "2 2 0a1 1b0", "none"},
		{"2 1", "2 1", "none"},
	} {
		g, l := impl.FoldAll(drawn(c.g))
		if s := wantFormatGraph(g); s != c.want || impl.FormatFolds(l) != c.folds {
			t.Errorf("FoldAll(%s) = %s, %v, want %s, %s", c.g, s, l, c.want, c.folds)
		}
	}
}

// FoldAll is FoldOnce until there is no fold, each fold takes one vertex, and the end is folded.
func TestEachFoldTakesOneVertex(t *testing.T) {
	for _, g := range slices.Concat(graphsToFold(), sampleFlowers()) {
		end, l := impl.FoldAll(g)
		if len(l) != g.Size-end.Size || !impl.IsFolded(end) || !wantIsFolded(end) || end.Rank != g.Rank || len(end.Edges) > len(g.Edges) {
			t.Errorf("FoldAll(%v) = %v, %v", g, end, l)
		}
		now := g
		for i := 0; ; i++ {
			next, f, ok := impl.FoldOnce(now)
			if !ok {
				checkGraph(t, next, i == len(l), end, true, "FoldOnce at the end", g)
				break
			}
			if i >= len(l) || f != l[i] || next.Size != now.Size-1 || !wantIsGraph(next) || f.Kept < 0 || f.Kept >= f.Dropped || f.Dropped >= now.Size {
				t.Fatalf("FoldOnce(%v) = %v, %v as fold %d of %v", now, next, f, i, l)
			}
			merged, ok := impl.MergeVertices(now, f)
			checkGraph(t, merged, ok, next, true, "MergeVertices", now, f)
			now = next
		}
	}
}

// The end does not depend on the order of the folds: it joins just the vertices that must be the same.
func TestFoldedGraphDoesNotDependOnOrder(t *testing.T) {
	r := rand.New(rand.NewPCG(7, 3))
	for _, g := range slices.Concat(graphsToFold(), sampleFlowers()) {
		want := wantFolded(g)
		all, l := impl.FoldAll(g)
		checkGraph(t, all, true, want, true, "FoldAll", g)
		for range 3 {
			choices := make([]int, g.Size)
			for i := range choices {
				choices[i] = r.IntN(1000)
			}
			got, m := impl.FoldInOrder(g, choices)
			checkGraph(t, got, len(m) == len(l), want, true, "FoldInOrder", g, choices)
			replayed, ok := impl.ReplayFolds(g, m)
			checkGraph(t, replayed, ok, want, true, "ReplayFolds", g, m)
		}
	}
}

// foldEveryWay performs all folds that are possible, one after the other, and each of those behind it.
func foldEveryWay(t *testing.T, g graph, l []fold, want graph) int {
	t.Helper()
	now, ok := impl.ReplayFolds(g, l)
	if !ok {
		t.Fatalf("ReplayFolds(%v, %v) is false", g, l)
	}
	if impl.IsFolded(now) {
		checkGraph(t, now, true, want, true, "folding", g, l)
		return 1
	}
	ends := 0
	for kept := range now.Size {
		for dropped := kept + 1; dropped < now.Size; dropped++ {
			more := append(slices.Clone(l), foldOf(kept, dropped))
			if slices.Contains(wantPossible(now), foldOf(kept, dropped)) {
				ends += foldEveryWay(t, g, more, want)
			} else if got, ok := impl.ReplayFolds(g, more); ok || !wantEqualGraphs(got, g) {
				t.Errorf("ReplayFolds(%v, %v) = %v, %t", g, more, got, ok)
			}
		}
	}
	return ends
}

func TestFoldsInEveryOrder(t *testing.T) {
	for _, g := range slices.Concat(everyNth(smallGraphs(), 3), randomGraphs(6), []graph{drawn("1 5 0a1 0a2 0a3 0a4"), drawn("2 6 0a1 0a2 0a3 1b4 2b5 3b0")}) {
		foldEveryWay(t, g, nil, wantFolded(g))
	}
	if n := foldEveryWay(t, drawn("1 4 0a1 0a2 0a3"), nil, drawn("1 2 0a1")); n != 3 {
		t.Errorf("three vertices can be folded in %d orders", n)
	}
}

func TestReplayFolds(t *testing.T) {
	for _, g := range slices.Concat(graphsToFold(), sampleFlowers()) {
		end, l := impl.FoldAll(g)
		got, ok := impl.ReplayFolds(g, l)
		checkGraph(t, got, ok, end, true, "ReplayFolds", g, l)
		for n := range len(l) {
			if n < 3 || n > len(l)-3 {
				checkReplay(t, g, l[:n])
				checkReplay(t, g, l[n:])
				checkReplay(t, g, slices.Concat(l[:n], l[n+1:]))
				checkReplay(t, g, slices.Concat(l[:n], []fold{foldOf(l[n].Dropped, l[n].Kept)}, l[n+1:]))
				checkReplay(t, g, slices.Concat(l[:n], []fold{foldOf(l[n].Kept, l[n].Kept)}))
				checkReplay(t, g, slices.Concat(l[:n], []fold{foldOf(l[n].Kept, l[n].Dropped+1)}))
				checkReplay(t, g, slices.Concat(l[:n], []fold{foldOf(l[n].Kept-1, l[n].Dropped)}))
			}
		}
		checkReplay(t, g, append(slices.Clone(l), foldOf(0, 1)))
		checkReplay(t, g, append(slices.Clone(l), fold{}))
		slices.Reverse(l)
		checkReplay(t, g, l)
	}
}

func TestReplayFoldsExamples(t *testing.T) {
	for _, c := range []struct {
		g     string
		folds string
		want  string
	}{
		{"2 3 0a1 0a2 0b2 1b0", "", "2 3 0a1 0a2 0b2 1b0"},
		{"2 3 0a1 0a2 0b2 1b0", "1=2", "2 2 0a1 0b1 1b0"},
		{"2 3 0a1 0a2 0b2 1b0", "0=1", ""},
		{"2 3 0a1 0a2 0b2 1b0", "0=2", ""},
		{"2 3 0a1 0a2 0b2 1b0", "2=1", ""},
		{"2 3 0a1 0a2 0b2 1b0", "1=2 1=2", ""},
		{"2 3 0a1 0a2 0b2 1b0", "1=2 0=1", ""},
		{"1 5 0a1 0a2 0a3 0a4", "3=4 1=3", "1 3 0a1 0a2"},
		{"1 5 0a1 0a2 0a3 0a4", "3=4 2=3 1=2", "1 2 0a1"},
		{"1 5 0a1 0a2 0a3 0a4", "1=4 1=3 1=2", "1 2 0a1"},
		{"1 5 0a1 0a2 0a3 0a4", "1=2 1=2 1=2", "1 2 0a1"},
		{"1 5 0a1 0a2 0a3 0a4", "1=2 1=4", ""},
		{"1 5 0a1 0a2 0a3 0a4", "1=4 2=3 1=2", "1 2 0a1"},
		{"1 5 0a1 0a2 0a3 0a4", "1=2 0=1", ""},
		{"1 5 0a1 0a3 1a2 3a4", "1=3", "1 4 0a1 1a2 1a3"},
		{"1 5 0a1 0a3 1a2 3a4", "1=3 2=3", "1 3 0a1 1a2"},
		{"1 5 0a1 0a3 1a2 3a4", "2=4", ""},
		{"1 5 0a1 0a3 1a2 3a4", "1=3 2=4", ""},
		{"1 2 0a0 0a1", "0=1", "1 1 0a0"},
		{"1 2 0a1 1a1", "0=1", "1 1 0a0"},
		{"1 2 0a1 1a0", "0=1", ""},
		{"1 2", "0=1", ""},
		{"1 1", "0=1", ""},
		{"1 1", "0=0", ""},
		{"1 1", "", "1 1"},
	} {
		g := drawn(c.g)
		got, ok := impl.ReplayFolds(g, folds(c.folds))
		want, wantOk := c.want, true
		if want == "" {
			want, wantOk = c.g, false
		}
		if s := wantFormatGraph(got); s != want || ok != wantOk {
			t.Errorf("ReplayFolds(%s, %s) = %s, %t, want %s, %t", c.g, c.folds, s, ok, want, wantOk)
		}
	}
}

func TestFoldInOrder(t *testing.T) {
	for _, g := range slices.Concat(everyNth(graphsToFold(), 5), unfoldedGraphs(), randomGraphs(40), everyNth(sampleFlowers(), 5)) {
		for _, choices := range sampleChoices() {
			checkFoldInOrder(t, g, choices)
		}
	}
}

// Missing, negative and large choices, in a graph in which each choice has another list of folds.
func TestChoices(t *testing.T) {
	const star = "1 4 0a1 0a2 0a3"
	for _, c := range []struct {
		choices []int
		want    string
	}{
		{nil, "1=2 1=2"},
		{[]int{0}, "1=2 1=2"},
		{[]int{1}, "1=3 1=2"},
		{[]int{2}, "2=3 1=2"},
		{[]int{3}, "1=2 1=2"},
		{[]int{4}, "1=3 1=2"},
		{[]int{5}, "2=3 1=2"},
		{[]int{1 << 32}, "1=3 1=2"},
		{[]int{math.MaxInt}, "1=3 1=2"},
		{[]int{math.MaxInt - 1}, "1=2 1=2"},
		{[]int{-1}, "1=2 1=2"},
		{[]int{-2}, "1=2 1=2"},
		{[]int{math.MinInt}, "1=2 1=2"},
		{[]int{math.MinInt + 1}, "1=2 1=2"},
		{[]int{2, 1}, "2=3 1=2"},
		{[]int{2, -1}, "2=3 1=2"},
		{[]int{2, 0, 1, 1, 1}, "2=3 1=2"},
	} {
		g, l := impl.FoldInOrder(drawn(star), c.choices)
		if s := wantFormatGraph(g); s != "1 2 0a1" || wantFormatFolds(l) != c.want {
			t.Errorf("FoldInOrder(%s, %v) = %s, %v, want %s", star, c.choices, s, l, c.want)
		}
	}
	const larger = "1 5 0a1 0a2 0a3 0a4"
	for _, c := range []struct {
		choices []int
		want    string
	}{
		{[]int{5}, "3=4 1=2 1=2"},
		{[]int{5, 2}, "3=4 2=3 1=2"},
		{[]int{5, -1}, "3=4 1=2 1=2"},
		{[]int{-5, 2}, "1=2 2=3 1=2"},
		{[]int{-5, 2, 9}, "1=2 2=3 1=2"},
		{[]int{6, 3}, "1=2 1=2 1=2"},
		{[]int{7, 4}, "1=3 1=3 1=2"},
		{[]int{8, 5}, "1=4 2=3 1=2"},
		{[]int{9, 1}, "2=3 1=3 1=2"},
		{[]int{10, 1}, "2=4 1=3 1=2"},
	} {
		_, l := impl.FoldInOrder(drawn(larger), c.choices)
		if wantFormatFolds(l) != c.want {
			t.Errorf("FoldInOrder(%s, %v) has %v, want %s", larger, c.choices, l, c.want)
		}
	}
	_, l := impl.FoldInOrder(drawn(star), make([]int, 100000))
	checkFoldLists(t, l, folds("1=2 1=2"), "FoldInOrder", star)
}

// possibleByChoice finds the possible folds of a graph through the first fold for each choice, up to the number that is wanted.
func possibleByChoice(g graph, n int) string {
	var l []fold
	for i := range n {
		_, done := impl.FoldInOrder(g, []int{i})
		l = append(l, done[0])
	}
	return wantFormatFolds(l)
}

// The possible folds are listed by the first edge and then by the second one, a fold once for each pair of edges.
func TestOrderOfPossibleFolds(t *testing.T) {
	for _, c := range []struct {
		g    string
		want string
	}{
		{"1 4 0a1 0a2 0a3", "1=2 1=3 2=3"},
		{"1 4 1a0 2a0 3a0", "1=2 1=3 2=3"},
		{"1 3 0a1 0a2 1a1", "1=2 0=1"},
		{"1 3 0a1 0a2 1a2", "1=2 0=1"},
		{"1 3 0a0 0a2 1a0", "0=2 0=1"},
		{"1 3 0a1 1a1 1a2", "0=1 1=2"},
		{"1 2 0a0 0a1 1a0 1a1", "0=1 0=1 0=1 0=1"},
		{"1 4 0a2 0a3 1a2 1a3", "2=3 0=1 0=1 2=3"},
		{"1 4 0a2 1a2 1a3 3a3", "0=1 2=3 1=3"},
		{"2 3 0a1 0a2 0b1 0b2", "1=2 1=2"},
		{"2 4 0a1 0a2 0b1 0b2 0b3", "1=2 1=2 1=3 2=3"},
		{"2 4 0b1 0b3 2a0 3a0", "1=3 2=3"},
		{"2 4 0b1 1a3 2a3 2b1", "0=2 1=2"},
		{"2 5 0a4 0b1 0b2 3a4", "0=3 1=2"},
		{"2 5 0b1 0b2 1a0 2a0 3a0", "1=2 1=2 1=3 2=3"},
		{"3 4 0a1 0b1 0c1 1a2 2c1 3a1 3b1 3b2", "0=3 0=3 0=2 1=2"},
	} {
		g := drawn(c.g)
		n := len(strings.Fields(c.want))
		if got := possibleByChoice(g, n); got != c.want {
			t.Errorf("the possible folds of %s are %s, want %s", c.g, got, c.want)
		}
		// The list begins again behind its last fold, so that it has no others.
		if got := possibleByChoice(g, 3*n); got != c.want+" "+c.want+" "+c.want {
			t.Errorf("the possible folds of %s, three times, are %s, want %s", c.g, got, c.want)
		}
	}
	for _, g := range slices.Concat(unfoldedGraphs()[:11], everyNth(smallGraphs(), 17), randomGraphs(30)) {
		possible := wantPossible(g)
		if n := len(possible); n > 0 {
			if got, want := possibleByChoice(g, 2*n), wantFormatFolds(slices.Repeat(possible, 2)); got != want {
				t.Errorf("the possible folds of %v are %s, want %s", g, got, want)
			}
		}
	}
}

// The edge case of this chapter: a fold that makes a loop, at the base and elsewhere, of one edge or of several, and of an edge and a loop.
func TestFoldsThatMakeALoop(t *testing.T) {
	for _, c := range []struct {
		g     string
		want  string
		folds string
	}{
		{"1 2 0a0 0a1", "1 1 0a0", "0=1"},
		{"1 2 0a0 1a0", "1 1 0a0", "0=1"},
		{"1 2 0a1 1a1", "1 1 0a0", "0=1"},
		{"1 2 1a0 1a1", "1 1 0a0", "0=1"},
		{"1 2 0a0 0a1 1a0 1a1", "1 1 0a0", "0=1"},
		{"2 2 0a0 0a1 0b1", "2 1 0a0 0b0", "0=1"},
		{"2 2 0a0 0a1 1b0", "2 1 0a0 0b0", "0=1"},
		{"2 2 0a0 0a1 0b1 1b0", "2 1 0a0 0b0", "0=1"},
		{"2 3 0a1 0a2 1b2", "2 2 0a1 1b1", "1=2"},
		{"2 3 0a1 0a2 2b1", "2 2 0a1 1b1", "1=2"},
		{"2 3 0a1 0a2 1b2 2b1", "2 2 0a1 1b1", "1=2"},
		{"2 3 1a0 1b2 2a0", "2 2 1a0 1b1", "1=2"},
		{"3 3 0a1 0a2 1b2 1c2", "3 2 0a1 1b1 1c1", "1=2"},
		{"2 3 0b2 1a2 1b2", "2 2 0a1 0b1", "0=1"},
		{"2 3 0a1 0b2 1b2", "2 2 0a0 0b1", "0=1"},
		{"2 4 0a1 0b2 0b3 2a3", "2 3 0a1 0b2 2a2", "2=3"},
		{"1 3 0a1 0a2 1a2", "1 1 0a0", "1=2 0=1"},
		{"1 3 0a1 1a2 2a1", "1 2 0a1 1a0", "0=2"},
		{"1 4 0a0 0a1 1a2 2a3", "1 1 0a0", "0=1 0=1 0=1"},
	} {
		g := drawn(c.g)
		got, l := impl.FoldAll(g)
		if s := wantFormatGraph(got); s != c.want || wantFormatFolds(l) != c.folds {
			t.Errorf("FoldAll(%s) = %s, %v, want %s, %s", c.g, s, l, c.want, c.folds)
		}
		for _, choices := range sampleChoices() {
			got, m := impl.FoldInOrder(g, choices)
			checkGraph(t, got, len(m) == len(l), drawn(c.want), true, "FoldInOrder", c.g, choices)
			again, ok := impl.ReplayFolds(g, m)
			checkGraph(t, again, ok, drawn(c.want), true, "ReplayFolds", c.g, m)
		}
		checkFirst(t, g)
		replayed, ok := impl.ReplayFolds(g, l)
		checkGraph(t, replayed, ok, got, true, "ReplayFolds", c.g, l)
	}
	// The loop has both of its ends at the vertex that is kept, and both directions of the letter stay there.
	once, f, ok := impl.FoldOnce(drawn("2 3 0a1 0a2 1b2"))
	if !ok || f != foldOf(1, 2) || !slices.Contains(once.Edges, edge(1, 2, 1)) || impl.DegreeOf(once, 1) != 3 || impl.NextVertex(once, 1, 2) != 1 || impl.NextVertex(once, 1, -2) != 1 {
		t.Errorf("FoldOnce makes no loop: %v, %v, %t", once, f, ok)
	}
}

// Flowers whose folds make loops, or shorten circles, and such that keep both.
func TestFlowersFoldedToLoops(t *testing.T) {
	for _, c := range []struct {
		l    string
		want string
	}{
		{"a,ab", "2 1 0a0 0b0"},
		{"aab,a", "2 1 0a0 0b0"},
		{"aaa,aa", "2 1 0a0"},
		{"aaaaaa,aaaaaaaaa", "2 3 0a1 1a2 2a0"},
		{"abA,abbA", "2 2 0a1 1b1"},
		{"abA,aBA", "2 2 0a1 1b1"},
		{"baab,baaab", "2 2 0b1 1a1 1b0"},
		{"ab,aB", "2 2 0a1 0b1 1b0"},
		{"ab,ab", "2 2 0a1 1b0"},
		{"ab,BA", "2 2 0a1 1b0"},
		{"ab,ba,aa", "2 2 0a1 0b1 1a0 1b0"},
	} {
		g, _ := wantFlower(2, words(c.l))
		got, l := impl.FoldAll(g)
		if s := wantFormatGraph(got); s != c.want || len(l) != g.Size-got.Size {
			t.Errorf("FoldAll of the flower of %s = %s, %v, want %s", c.l, s, l, c.want)
		}
	}
}

// A fold that makes two edges equal keeps one of them, also where it makes several pairs equal.
func TestFoldsThatMakeEdgesEqual(t *testing.T) {
	for _, c := range []struct {
		g    string
		f    fold
		want string
	}{
		{"1 3 0a1 0a2", foldOf(1, 2), "1 2 0a1"},
		{"1 3 1a0 2a0", foldOf(1, 2), "1 2 1a0"},
		{"1 3 1a1 1a2 2a1", foldOf(1, 2), "1 2 1a1"},
		{"1 3 1a1 1a2 2a1 2a2", foldOf(1, 2), "1 2 1a1"},
		{"2 3 0a1 0a2 1b0 2b0", foldOf(1, 2), "2 2 0a1 1b0"},
		{"2 3 0a1 0a2 0b1 0b2 1a0 1b0 2a0 2b0", foldOf(1, 2), "2 2 0a1 0b1 1a0 1b0"},
		{"2 4 0a1 0a3 1b2 2a1 2a3 3b2", foldOf(1, 3), "2 3 0a1 1b2 2a1"},
		{"1 4 0a1 0a2 3a1 3a2", foldOf(1, 2), "1 3 0a1 2a1"},
		{"3 3 0a1 0a2 0b1 0b2 0c1 0c2", foldOf(1, 2), "3 2 0a1 0b1 0c1"},
	} {
		got, ok := impl.MergeVertices(drawn(c.g), c.f)
		if s := wantFormatGraph(got); s != c.want || !ok {
			t.Errorf("MergeVertices(%s, %v) = %s, %t, want %s", c.g, c.f, s, ok, c.want)
		}
		got, ok = impl.ReplayFolds(drawn(c.g), []fold{c.f})
		if s := wantFormatGraph(got); s != c.want || !ok {
			t.Errorf("ReplayFolds(%s, %v) = %s, %t, want %s", c.g, c.f, s, ok, c.want)
		}
	}
	// Each possible fold makes its two edges equal, so that there is at least one edge less.
	for _, g := range slices.Concat(smallGraphs(), unfoldedGraphs(), randomGraphs(120)) {
		for _, f := range wantPossible(g) {
			if got, ok := impl.MergeVertices(g, f); !ok || len(got.Edges) >= len(g.Edges) || !wantIsGraph(got) {
				t.Errorf("MergeVertices(%v, %v) = %v, %t", g, f, got, ok)
			}
		}
	}
}

// Edges with both ends different force nothing, and neither do edges with different letters; a pair may be listed for its From only.
func TestPairsOfEdges(t *testing.T) {
	edges := edgesOfAll(2, 4)
	for i, a := range edges {
		for _, b := range edges[i+1:] {
			g := graphOf(2, 4, a, b)
			var want []fold
			if a.Letter == b.Letter && a.From == b.From {
				want = append(want, foldOf(a.To, b.To))
			}
			if a.Letter == b.Letter && a.To == b.To {
				want = append(want, foldOf(a.From, b.From))
			}
			if len(want) > 1 {
				t.Fatalf("two folds of %v", g)
			}
			end, l := impl.FoldAll(g)
			f, ok := impl.FirstFold(g)
			if len(want) == 0 {
				checkGraph(t, end, ok, g, false, "FoldAll", g)
				checkFoldLists(t, l, nil, "FoldAll", g)
				continue
			}
			if len(l) == 0 || l[0] != want[0] || f != want[0] || !ok || f.Kept >= f.Dropped {
				t.Errorf("FirstFold(%v) = %v, %t, FoldAll has %v, want %v", g, f, ok, l, want)
			}
		}
	}
	for _, s := range []string{"1 4 0a1 2a3", "1 4 0a2 1a3", "1 4 0a3 1a2", "1 4 1a0 3a2", "1 3 0a0 1a2", "1 3 0a1 1a2", "2 3 0a1 0b2", "2 3 0a2 1b2", "2 2 0a1 0b1"} {
		checkNoFold(t, drawn(s))
	}
	for _, c := range [][2]string{{"1 3 0a2 1a2", "0=1"}, {"1 3 1a0 2a0", "1=2"}, {"2 4 0b3 2b3", "0=2"}, {"1 2 0a1 1a1", "0=1"}, {"1 2 0a0 1a0", "0=1"}, {"3 4 1c2 3c2", "1=3"}} {
		if _, l := impl.FoldAll(drawn(c[0])); wantFormatFolds(l) != c[1] {
			t.Errorf("FoldAll(%s) has %v, want %s", c[0], l, c[1])
		}
	}
}

// checkNoFold expects the results for a graph that is valid and has no fold.
func checkNoFold(t *testing.T, g graph) {
	t.Helper()
	f, ok := impl.FirstFold(g)
	if f != (fold{}) || ok {
		t.Errorf("FirstFold(%v) = %v, %t", g, f, ok)
	}
	got, f, ok := impl.FoldOnce(g)
	checkGraph(t, got, ok, g, false, "FoldOnce", g)
	if f != (fold{}) {
		t.Errorf("FoldOnce(%v) has the fold %v", g, f)
	}
	got, l := impl.FoldAll(g)
	checkGraph(t, got, len(l) == 0, g, true, "FoldAll", g)
	for _, choices := range [][]int{nil, {}, {0}, {3, -1, math.MaxInt}} {
		got, l = impl.FoldInOrder(g, choices)
		checkGraph(t, got, len(l) == 0, g, true, "FoldInOrder", g, choices)
	}
	for _, none := range [][]fold{nil, {}} {
		got, ok = impl.ReplayFolds(g, none)
		checkGraph(t, got, ok, g, true, "ReplayFolds", g, none)
	}
	for _, f := range append(folds("0=1 1=2 0=2"), foldOf(0, g.Size-1), foldOf(g.Size-2, g.Size-1)) {
		got, ok = impl.ReplayFolds(g, []fold{f})
		checkGraph(t, got, ok, g, false, "ReplayFolds", g, f)
	}
}

func TestGraphsWithoutAFold(t *testing.T) {
	for _, g := range unfoldableGraphs() {
		checkNoFold(t, g)
	}
}

// A graph has a fold exactly if it is not folded.
func TestFoldedGraphsHaveNoFold(t *testing.T) {
	for _, g := range slices.Concat(graphsToFold(), unfoldableGraphs()) {
		if _, ok := impl.FirstFold(g); ok == impl.IsFolded(g) {
			t.Errorf("FirstFold(%v) is %t", g, ok)
		}
	}
}

// A fold that was possible before, or that becomes possible later, is not possible now.
func TestFoldsThatAreNotPossibleNow(t *testing.T) {
	const line = "1 5 0a1 0a3 1a2 3a4"
	g := drawn(line)
	for _, l := range []string{"2=4", "2=4 1=3", "1=3 1=3", "1=3 2=4", "1=3 2=3 2=3", "1=3 2=3 1=2", "1=3 2=3 0=1", "0=1", "1=2", "3=1", "1=3 3=2", "1=3 2=3 0=0", "1=3 0=2", "1=4", "2=3"} {
		got, ok := impl.ReplayFolds(g, folds(l))
		checkGraph(t, got, ok, g, false, "ReplayFolds", line, l)
	}
	for l, want := range map[string]string{"": line, "1=3": "1 4 0a1 1a2 1a3", "1=3 2=3": "1 3 0a1 1a2"} {
		got, ok := impl.ReplayFolds(g, folds(l))
		checkGraph(t, got, ok, drawn(want), true, "ReplayFolds", line, l)
	}
	got, ok := impl.ReplayFolds(g, slices.Repeat(folds("1=3"), 100000))
	checkGraph(t, got, ok, g, false, "ReplayFolds", line, "a long list")
}

// Each function has its fixed result for graphs that are not valid.
func TestFoldsOfGraphsThatAreNotValid(t *testing.T) {
	for _, g := range invalidToFold() {
		f, ok := impl.FirstFold(g)
		if f != (fold{}) || ok {
			t.Errorf("FirstFold of %d vertices = %v, %t", g.Size, f, ok)
		}
		for _, f := range append(strangeFolds(g), folds("0=1 0=2 1=2 38=39 39=40 0=9223372036854775806")...) {
			got, ok := impl.MergeVertices(g, f)
			checkGraph(t, got, ok, g, false, "MergeVertices", g.Size, f)
			got, ok = impl.ReplayFolds(g, []fold{f})
			checkGraph(t, got, ok, g, false, "ReplayFolds", g.Size, f)
		}
		got, f, ok := impl.FoldOnce(g)
		checkGraph(t, got, ok, g, false, "FoldOnce", g.Size)
		if f != (fold{}) {
			t.Errorf("FoldOnce of %d vertices has the fold %v", g.Size, f)
		}
		got, l := impl.FoldAll(g)
		checkGraph(t, got, len(l) == 0, g, true, "FoldAll", g.Size)
		for _, choices := range [][]int{nil, {0}, {1, 2}, {-1}} {
			got, l = impl.FoldInOrder(g, choices)
			checkGraph(t, got, len(l) == 0, g, true, "FoldInOrder", g.Size, choices)
		}
		for _, none := range [][]fold{nil, {}} {
			got, ok = impl.ReplayFolds(g, none)
			checkGraph(t, got, ok, g, false, "ReplayFolds", g.Size, none)
		}
	}
}

// A folded flower reads its words as loops at the base, one way for each letter.
func TestFoldedFlowersReadTheirWords(t *testing.T) {
	for _, l := range slices.Concat(wordLists(reducedWords(2, 2), 2), everyNth(wordLists(reducedWords(3, 2), 2), 7), limitLists()) {
		g, ok := wantFlower(3, l)
		if !ok {
			continue
		}
		folded, _ := impl.FoldAll(g)
		for _, w := range l {
			for _, v := range [][]int{w, wantInvert(w), slices.Concat(w, l[0], wantInvert(w))} {
				if end, ok := impl.WalkWord(folded, 0, v); end != 0 || !ok {
					t.Errorf("FoldAll of the flower of %v = %v reads %v to %d, %t", l, folded, v, end, ok)
				}
			}
		}
	}
}

// The longest foldings: all vertices but one are dropped.
func TestLongestFoldings(t *testing.T) {
	star, pit, line := graphOf(1, maxVertices), graphOf(1, maxVertices), graphOf(1, maxVertices, edge(0, 1, 0))
	for v := range maxVertices {
		star.Edges = append(star.Edges, edge(0, 1, v))
		pit.Edges = append(pit.Edges, edge(v, 1, maxVertices-1))
		if v > 0 {
			line.Edges = append(line.Edges, edge(v-1, 1, v))
		}
	}
	slices.SortFunc(line.Edges, wantCompareEdges)
	for _, g := range []graph{star, pit, line} {
		for _, choices := range [][]int{nil, {1000, 999}, slices.Repeat([]int{math.MaxInt, 3}, 20)} {
			checkFoldInOrder(t, g, choices)
			got, l := impl.FoldInOrder(g, choices)
			checkGraph(t, got, len(l) == maxVertices-1, graphOf(1, 1, edge(0, 1, 0)), true, "FoldInOrder", g, choices)
			replayed, ok := impl.ReplayFolds(g, l)
			checkGraph(t, replayed, ok, got, true, "ReplayFolds", g, l)
		}
	}
}

func TestFormatFolds(t *testing.T) {
	for _, c := range []struct {
		l    []fold
		want string
	}{
		{nil, "none"}, {[]fold{}, "none"}, {[]fold{{}}, "0=0"}, {folds("1=2"), "1=2"}, {folds("1=2 0=10"), "1=2 0=10"}, {folds("38=39 0=1 0=1"), "38=39 0=1 0=1"},
		{[]fold{foldOf(2, 1)}, "2=1"}, {[]fold{foldOf(-1, -2), foldOf(7, 7)}, "-1=-2 7=7"},
		{[]fold{foldOf(math.MinInt, math.MaxInt)}, "-9223372036854775808=9223372036854775807"},
	} {
		if got := impl.FormatFolds(c.l); got != c.want {
			t.Errorf("FormatFolds(%v) = %q, want %q", c.l, got, c.want)
		}
	}
	numbers := []int{math.MinInt, -40, -1, 0, 1, 9, 10, 39, math.MaxInt}
	var l []fold
	for _, kept := range numbers {
		for _, dropped := range numbers {
			l = append(l, foldOf(kept, dropped))
			if got, want := impl.FormatFolds(l), wantFormatFolds(l); got != want {
				t.Errorf("FormatFolds(%v) = %q", l, got)
			}
		}
	}
	if got := impl.FormatFolds(make([]fold, 100000)); len(got) != 4*100000-1 {
		t.Errorf("FormatFolds of 100000 folds has %d bytes", len(got))
	}
}

// Lists with nothing in them are treated alike, whether they are nil or empty.
func TestFoldingWithEmptyLists(t *testing.T) {
	for _, edges := range [][]impl.Edge{nil, {}} {
		checkNoFold(t, graph{Rank: 2, Size: 1, Edges: edges})
		checkNoFold(t, graph{Rank: 3, Size: maxVertices, Edges: edges})
		got, ok := impl.MergeVertices(graph{Rank: 2, Size: 3, Edges: edges}, foldOf(1, 2))
		checkGraph(t, got, ok, graphOf(2, 2), true, "MergeVertices", edges)
	}
	for _, choices := range [][]int{nil, {}} {
		checkFoldInOrder(t, drawn("1 4 0a1 0a2 0a3"), choices)
	}
	for _, none := range [][]fold{nil, {}} {
		g := drawn("1 4 0a1 0a2 0a3")
		got, ok := impl.ReplayFolds(g, none)
		checkGraph(t, got, ok, g, true, "ReplayFolds", g, none)
	}
}

// Arguments keep their elements and unused capacity, and a change to a result changes no argument and no later result.
func TestFoldsShareNoMemory(t *testing.T) {
	for _, original := range slices.Concat(everyNth(smallGraphs(), 3), limitGraphs(), unfoldedGraphs(), largeFoldedGraphs(), invalidGraphs()) {
		g, memory := graphWithRoom(original)
		choices, memoryOfChoices := withRoom([]int{1, 0, -1, 5})
		_, l := wantFoldInOrder(original, nil)
		memoryOfFolds := append(slices.Clone(l), foldOf(77, 78), foldOf(79, 80))
		wantMemory, wantChoices, wantFolds := slices.Clone(memory), slices.Clone(memoryOfChoices), slices.Clone(memoryOfFolds)
		given := memoryOfFolds[:len(l)]
		calls := []func() (graph, []fold){
			func() (graph, []fold) { h, _ := impl.MergeVertices(g, foldOf(0, 1)); return h, nil },
			func() (graph, []fold) { h, _ := impl.MergeVertices(g, foldOf(1, 0)); return h, nil },
			func() (graph, []fold) { h, _, _ := impl.FoldOnce(g); return h, nil },
			func() (graph, []fold) { return impl.FoldAll(g) },
			func() (graph, []fold) { return impl.FoldInOrder(g, choices) },
			func() (graph, []fold) { h, _ := impl.ReplayFolds(g, given); return h, nil },
			func() (graph, []fold) { h, _ := impl.ReplayFolds(g, nil); return h, nil },
			func() (graph, []fold) { h, _ := impl.ReplayFolds(g, memoryOfFolds); return h, nil },
		}
		for i, call := range calls {
			got, m := call()
			want, wantFolds := graphOf(got.Rank, got.Size, slices.Clone(got.Edges)...), slices.Clone(m)
			overwrittenGraph(got)
			for k := range m[:cap(m)] {
				m[:cap(m)][k] = foldOf(55, 55)
			}
			again, n := call()
			checkGraph(t, again, true, want, true, "the same call again", i, original)
			checkFoldLists(t, n, wantFolds, "the same call again", i, original)
		}
		impl.FirstFold(g)
		impl.FormatFolds(given)
		if !slices.Equal(memory, wantMemory) {
			t.Errorf("the edges of %v have changed to %v", original, memory)
		}
		checkList(t, memoryOfChoices, wantChoices, "choices", original)
		checkFoldLists(t, memoryOfFolds, wantFolds, "arguments", original)
	}
}

// Calls at the same time have no state in common, even for the same graph.
func TestFoldsAtTheSameTime(t *testing.T) {
	graphs := slices.Concat(limitGraphs(), unfoldedGraphs(), randomGraphs(40))
	var ends [8][]graph
	var group sync.WaitGroup
	for i := range ends {
		group.Go(func() {
			for _, g := range graphs {
				end, l := impl.FoldInOrder(g, []int{i, 2 * i, 3 * i})
				replayed, _ := impl.ReplayFolds(g, l)
				ends[i] = append(ends[i], end, replayed)
			}
		})
	}
	group.Wait()
	for i, l := range ends {
		for k, got := range l {
			checkGraph(t, got, true, wantFolded(graphs[k/2]), true, "folding at the same time", i, k)
		}
	}
}
