package tests

import (
	"math"
	"math/rand/v2"
	"slices"
	"strconv"
	"strings"
	"sync"
	"testing"

	"loop.example/g02075/impl"
)

// Promise 3, as far as chapter 8 goes: whatever is folded first, the core is the same up to the names of vertices; trimming leaves no tree beside the base; canonical numbers depend on nothing but the graph; a core is its own core.
// The wanted results are computed here in the plainest way, from the definitions of the chapter.

// withoutVertex removes a vertex with its edges; the vertices behind it move up.
func withoutVertex(g graph, v int) graph {
	less := graphOf(g.Rank, g.Size-1)
	for _, e := range g.Edges {
		if e.From == v || e.To == v {
			continue
		}
		if e.From > v {
			e.From--
		}
		if e.To > v {
			e.To--
		}
		less.Edges = append(less.Edges, e)
	}
	return less
}

func isLoose(g graph, v int) bool {
	return wantDegree(g, v) < 2 || !slices.Contains(wantReached(g, 0), v)
}

// wantTrim takes the definition at its word: one vertex after the other, always the least one.
func wantTrim(g graph) (graph, []int) {
	if !wantIsGraph(g) {
		return g, nil
	}
	names := namesUpTo(g.Size)
	for v := 1; v < g.Size; v++ {
		if isLoose(g, v) {
			g = withoutVertex(g, v)
			names = slices.Delete(names, v, v+1)
			v = 0
		}
	}
	return g, names
}

func namesUpTo(n int) []int {
	var l []int
	for v := range n {
		l = append(l, v)
	}
	return l
}

func isOrder(g graph, order []int) bool {
	for i, v := range order {
		if !isThere(g, v) || slices.Contains(order[i+1:], v) {
			return false
		}
	}
	return len(order) > 0 && len(order) <= g.Size
}

func wantRenumber(g graph, order []int) (graph, bool) {
	if !wantIsGraph(g) || !isOrder(g, order) {
		return g, false
	}
	renumbered := graphOf(g.Rank, len(order))
	for _, e := range g.Edges {
		from, to := slices.Index(order, e.From), slices.Index(order, e.To)
		if from >= 0 && to >= 0 {
			renumbered.Edges = append(renumbered.Edges, edge(from, e.Letter, to))
		}
	}
	slices.SortFunc(renumbered.Edges, wantCompareEdges)
	return renumbered, true
}

func wantOrder(g graph) []int {
	if !wantIsFolded(g) {
		return nil
	}
	order := []int{0}
	for i := 0; i < len(order); i++ {
		for _, letter := range []int{1, -1, 2, -2, 3, -3} {
			if next := wantNext(g, order[i], letter); next != -1 && !slices.Contains(order, next) {
				order = append(order, next)
			}
		}
	}
	return order
}

func wantCanonical(g graph) graph {
	canonical, _ := wantRenumber(g, wantOrder(g))
	return canonical
}

func wantCoreGraph(g graph) graph {
	if !wantIsGraph(g) {
		return g
	}
	trimmed, _ := wantTrim(wantFolded(g))
	return wantCanonical(trimmed)
}

func wantIsCore(g graph) bool {
	return wantIsFolded(g) && wantEqualGraphs(wantCanonical(g), g) && !slices.ContainsFunc(namesUpTo(g.Size), func(v int) bool { return v > 0 && isLoose(g, v) })
}

// wantIsTree expects that the graph is connected, and no longer without any of its edges.
func wantIsTree(g graph) bool {
	if !wantIsGraph(g) || len(wantReached(g, 0)) < g.Size {
		return false
	}
	for i := range g.Edges {
		less := graphOf(g.Rank, g.Size, slices.Delete(slices.Clone(g.Edges), i, i+1)...)
		if len(wantReached(less, 0)) == g.Size {
			return false
		}
	}
	return true
}

// shuffled returns the vertices of a graph in any order behind the base.
func shuffled(r *rand.Rand, g graph) []int {
	order := []int{0}
	for _, v := range r.Perm(g.Size - 1) {
		order = append(order, v+1)
	}
	return order
}

// permutationsOf returns all orders of some numbers.
func permutationsOf(l []int) [][]int {
	if len(l) == 0 {
		return [][]int{nil}
	}
	var all [][]int
	for i, v := range l {
		for _, rest := range permutationsOf(slices.Delete(slices.Clone(l), i, i+1)) {
			all = append(all, append([]int{v}, rest...))
		}
	}
	return all
}

// overgrownGraphs returns graphs of long and short trees, some circles and parts that are not connected with the base, with names in any order.
func overgrownGraphs(n int) []graph {
	r := rand.New(rand.NewPCG(8, 1))
	var l []graph
	for i := range n {
		rank, size := 1+i%3, 2+i%(maxVertices-1)
		g, names := graphOf(rank, size), r.Perm(size)
		add := func(u int, v int) {
			e := edge(names[u], 1+r.IntN(rank), names[v])
			if r.IntN(2) == 0 {
				e.From, e.To = e.To, e.From
			}
			if !slices.Contains(g.Edges, e) {
				g.Edges = append(g.Edges, e)
			}
		}
		for v := 1; v < size; v++ {
			switch r.IntN(8) {
			case 0:
			case 1, 2:
				add(v, r.IntN(v))
			default:
				add(v, v-1)
			}
		}
		for range r.IntN(5) {
			add(r.IntN(size), r.IntN(size))
		}
		slices.SortFunc(g.Edges, wantCompareEdges)
		l = append(l, g)
	}
	return l
}

// graphsToTrim returns valid graphs, folded or not, with and without something to trim.
func graphsToTrim() []graph {
	return slices.Concat(graphsToFold(), everyNth(foldedGraphs(2, 3), 2), everyNth(foldedGraphs(1, 4), 2), overgrownGraphs(200))
}

// graphsToFoldAndTrim returns some of them, for tests that take each of them in many ways.
func graphsToFoldAndTrim() []graph {
	return slices.Concat(everyNth(smallGraphs(), 4), unfoldedGraphs(), randomGraphs(60), overgrownGraphs(60), everyNth(sampleFlowers(), 9))
}

func checkTrim(t *testing.T, g graph) {
	t.Helper()
	got, names := impl.TrimGraph(g)
	want, wantNames := wantTrim(g)
	checkGraph(t, got, true, want, true, "TrimGraph", g)
	checkList(t, names, wantNames, "TrimGraph", g)
}

func checkRenumber(t *testing.T, g graph, order []int) {
	t.Helper()
	got, ok := impl.RenumberGraph(g, order)
	want, wantOk := wantRenumber(g, order)
	checkGraph(t, got, ok, want, wantOk, "RenumberGraph", g, order)
}

func checkCanonical(t *testing.T, g graph) {
	t.Helper()
	checkList(t, impl.CanonicalOrder(g), wantOrder(g), "CanonicalOrder", g)
	checkGraph(t, impl.CanonicalGraph(g), true, wantCanonical(g), true, "CanonicalGraph", g)
}

func checkCore(t *testing.T, g graph) {
	t.Helper()
	checkGraph(t, impl.CoreGraph(g), true, wantCoreGraph(g), true, "CoreGraph", g)
	if got, want := impl.IsCore(g), wantIsCore(g); got != want {
		t.Errorf("IsCore(%v) = %t, want %t", g, got, want)
	}
}

func TestTrimGraph(t *testing.T) {
	for _, g := range graphsToTrim() {
		checkTrim(t, g)
	}
}

// trimExample has the graphs as in FormatGraph, and the numbers that are left separated by spaces.
type trimExample struct {
	g     string
	want  string
	names string
}

func namesIn(s string) []int {
	var l []int
	for _, part := range strings.Fields(s) {
		v, _ := strconv.Atoi(part)
		l = append(l, v)
	}
	return l
}

func checkTrimExamples(t *testing.T, l []trimExample) {
	t.Helper()
	for _, c := range l {
		got, names := impl.TrimGraph(drawn(c.g))
		if s := wantFormatGraph(got); s != c.want || !slices.Equal(names, namesIn(c.names)) {
			t.Errorf("TrimGraph(%s) = %s, %v, want %s, %s", c.g, s, names, c.want, c.names)
		}
	}
}

func TestTrimGraphExamples(t *testing.T) {
	checkTrimExamples(t, []trimExample{
		{"2 5 0a1 1b2 2a1 2b3", "2 3 0a1 1b2 2a1", "0 1 2"},
		{"2 3 0a1 1b0 1b2", "2 2 0a1 1b0", "0 1"},
		{"2 3 0a2 1b2 2b0", "2 2 0a1 1b0", "0 2"},
		{"2 3 0a2 2b0 2b1", "2 2 0a1 1b0", "0 2"},
		{"2 3 0a0 0a1 0b2", "2 1 0a0", "0"},
		{"2 3 0a1 0a2", "2 1", "0"},
		{"2 3 0a2 1a2", "2 1", "0"},
	})
}

// The numbers that the vertices had at first, after one, several and all but one were removed before, behind and between them.
func TestNumbersOfTrimmedGraphs(t *testing.T) {
	checkTrimExamples(t, []trimExample{
		{"2 6 0a5 1b0 2b1 3a5 4a5 5b0", "2 2 0a1 1b0", "0 5"},
		{"2 7 0a3 2a4 3b6 4b2 6a0", "2 3 0a1 1b2 2a0", "0 3 6"},
		{"3 8 0a2 2b4 3c2 4b6 5a4 6a0 7c6", "3 4 0a1 1b2 2b3 3a0", "0 2 4 6"},
		{"1 12 0a11 9a0 10a9 11a10", "1 4 0a3 1a0 2a1 3a2", "0 9 10 11"},
		{"2 6 0a1 1a2 2a0 2b3 3b4 4b5", "2 3 0a1 1a2 2a0", "0 1 2"},
		{"2 6 0a3 1b2 2b3 3a4 4a0 5b4", "2 3 0a1 1a2 2a0", "0 3 4"},
		{"2 40 0a39 38b39 39a0", "2 2 0a1 1a0", "0 39"},
		{"3 40 0b20 19c21 20b0", "3 2 0b1 1b0", "0 20"},
		{"1 40", "1 1", "0"},
	})
	// Each number belongs to a vertex that has its edges to what is left, and to nothing else.
	for _, g := range slices.Concat(overgrownGraphs(100), randomGraphs(80)) {
		trimmed, names := impl.TrimGraph(g)
		if len(names) != trimmed.Size || !slices.IsSorted(names) || !isOrder(g, names) || names[0] != 0 {
			t.Errorf("TrimGraph(%v) = %v, %v", g, trimmed, names)
		}
		again, ok := impl.RenumberGraph(g, names)
		checkGraph(t, again, ok, trimmed, true, "RenumberGraph", g, names)
	}
}

// The edge case of this chapter: a base on a tail stays, and so does its tail, whatever the degree of the base.
func TestBaseOnATail(t *testing.T) {
	checkTrimExamples(t, []trimExample{
		// The base has the degree 1.
		{"2 2 0a1 1b1", "2 2 0a1 1b1", "0 1"},
		{"2 2 1a0 1b1", "2 2 1a0 1b1", "0 1"},
		{"1 2 0a1 1a1", "1 2 0a1 1a1", "0 1"},
		{"2 4 0a1 1a2 2b3 3b2", "2 4 0a1 1a2 2b3 3b2", "0 1 2 3"},
		{"2 4 0a3 1b2 2b1 3a1", "2 4 0a3 1b2 2b1 3a1", "0 1 2 3"},
		{"2 4 1a0 2a1 2b3 3b2", "2 4 1a0 2a1 2b3 3b2", "0 1 2 3"},
		// A branch of the tail that ends nowhere is no part of it.
		{"2 4 0a1 1a2 1b3 2b2", "2 3 0a1 1a2 2b2", "0 1 2"},
		{"2 5 0a1 1a3 1b2 3b3 4a3", "2 3 0a1 1a2 2b2", "0 1 3"},
		// The base has the degree 2, with a tail to a circle on one side and a branch that ends nowhere on the other.
		{"2 3 0a1 0b2 1b1", "2 2 0a1 1b1", "0 1"},
		{"2 5 0a1 0b2 1b1 2a3 3a4", "2 2 0a1 1b1", "0 1"},
		{"2 5 0a4 0b3 1a2 3a1 4b4", "2 2 0a1 1b1", "0 4"},
		// Both sides end in a circle.
		{"2 3 0a1 0b2 1b1 2a2", "2 3 0a1 0b2 1b1 2a2", "0 1 2"},
		// The tail ends nowhere, so that the base stays alone.
		{"2 2 0a1", "2 1", "0"},
		{"2 2 1b0", "2 1", "0"},
		{"1 4 0a1 1a2 2a3", "1 1", "0"},
		{"1 4 0a3 2a1 3a2", "1 1", "0"},
		// The tail goes from a circle at the base to nowhere.
		{"2 3 0a1 0b0 1a2", "2 1 0b0", "0"},
		// The base has the degree 0 from the start.
		{"2 3 1a2 2a1", "2 1", "0"},
	})
	for l, want := range map[string]string{
		"abA":        "2 2 0a1 1b1",
		"aabAA":      "2 3 0a1 1a2 2b2",
		"ABaba":      "2 3 1a0 2a2 2b1",
		"abbA":       "2 3 0a1 1b2 2b1",
		"bbaBB":      "2 3 0b1 1b2 2a2",
		"abA,aabbAA": "2 4 0a1 1a2 1b1 2b3 3b2",
	} {
		g, _ := wantFlower(2, words(l))
		core := impl.CoreGraph(g)
		if got := wantFormatGraph(core); got != want || impl.DegreeOf(core, 0) != 1 || !impl.IsCore(core) {
			t.Errorf("CoreGraph of the flower of %s = %s, want %s", l, got, want)
		}
		checkCore(t, g)
	}
}

// The longest tail stays if there is a loop at its end, and goes otherwise.
func TestLongestTails(t *testing.T) {
	for _, letters := range [][]int{{1}, {2, 1}, {1, 2, 3}} {
		tail := lineGraph(3, maxVertices, letters...)
		trimmed, names := impl.TrimGraph(tail)
		checkGraph(t, trimmed, true, graphOf(3, 1), true, "TrimGraph", tail)
		checkList(t, names, []int{0}, "TrimGraph", tail)
		for letter := 1; letter <= 3; letter++ {
			longer := graphOf(3, maxVertices, append(slices.Clone(tail.Edges), edge(maxVertices-1, letter, maxVertices-1))...)
			trimmed, names = impl.TrimGraph(longer)
			checkGraph(t, trimmed, true, longer, true, "TrimGraph", longer)
			checkList(t, names, namesUpTo(maxVertices), "TrimGraph", longer)
			checkCore(t, longer)
		}
	}
}

// A vertex with two edges goes only because its neighbour was removed before it, be that one greater or less.
func TestVerticesRemovedAfterTheirNeighbours(t *testing.T) {
	for _, names := range permutationsOf([]int{1, 2, 3, 4}) {
		// A circle through the base and the first two, and a branch of the last two.
		order := append([]int{0}, names...)
		g := graphOf(2, 5, edge(0, 1, order[1]), edge(order[1], 1, order[2]), edge(order[2], 1, 0), edge(order[2], 2, order[3]), edge(order[4], 2, order[3]))
		slices.SortFunc(g.Edges, wantCompareEdges)
		checkTrim(t, g)
		if trimmed, l := impl.TrimGraph(g); trimmed.Size != 3 || !slices.Equal(l, slices.Sorted(slices.Values(order[:3]))) {
			t.Errorf("TrimGraph(%v) = %v, %v", g, trimmed, l)
		}
		// A branch of all four, straight and forked.
		for _, line := range [][]impl.Edge{
			{edge(0, 1, order[1]), edge(order[1], 1, order[2]), edge(order[2], 2, order[3]), edge(order[3], 2, order[4])},
			{edge(0, 1, order[1]), edge(order[1], 1, order[2]), edge(order[1], 2, order[3]), edge(order[4], 1, order[3])},
		} {
			g := graphOf(2, 5, append(line, edge(0, 2, 0))...)
			slices.SortFunc(g.Edges, wantCompareEdges)
			trimmed, l := impl.TrimGraph(g)
			checkGraph(t, trimmed, true, graphOf(2, 1, edge(0, 2, 0)), true, "TrimGraph", g)
			checkList(t, l, []int{0}, "TrimGraph", g)
		}
	}
}

// Parts that are not connected with the base go, whatever their degrees.
func TestPartsThatAreNotConnectedWithTheBase(t *testing.T) {
	checkTrimExamples(t, []trimExample{
		{"1 2", "1 1", "0"},
		{"1 2 1a1", "1 1", "0"},
		{"3 2 1a1 1b1 1c1", "3 1", "0"},
		{"2 2 0a0 1a1 1b1", "2 1 0a0", "0"},
		{"2 3 0a0 1a2 1b2", "2 1 0a0", "0"},
		{"1 3 0a2 1a1 2a0", "1 2 0a1 1a0", "0 2"},
		{"2 5 0a3 1a2 1b1 2b4 3b0 4a1", "2 2 0a1 1b0", "0 3"},
		{"2 5 0a1 1b1 2a3 2b4 3a3 4a4", "2 2 0a1 1b1", "0 1"},
		{"2 5 0a3 1b2 2b1 4a4", "2 1", "0"},
	})
	for _, g := range largeFoldedGraphs() {
		if g.Size < maxVertices {
			apart := graphOf(g.Rank, g.Size+1, append(slices.Clone(g.Edges), edge(g.Size, 1, g.Size))...)
			got, names := impl.TrimGraph(apart)
			want, _ := wantTrim(g)
			checkGraph(t, got, !slices.Contains(names, g.Size), want, true, "TrimGraph", apart)
		}
	}
}

// A loop gives its vertex the degree 2, so that it holds it, and so do two edges between the same two vertices.
func TestLoopsHoldTheirVertices(t *testing.T) {
	checkTrimExamples(t, []trimExample{
		{"3 4 0a1 0b2 0c3 1a1 2a2 3a3", "3 4 0a1 0b2 0c3 1a1 2a2 3a3", "0 1 2 3"},
		{"2 4 0a1 0b2 1b1 2b3", "2 2 0a1 1b1", "0 1"},
		{"1 3 0a1 1a2 2a2", "1 3 0a1 1a2 2a2", "0 1 2"},
		{"1 2 0a1 1a0", "1 2 0a1 1a0", "0 1"},
		{"2 2 0a1 0b1", "2 2 0a1 0b1", "0 1"},
		{"2 3 0a1 1a2 1b2", "2 3 0a1 1a2 1b2", "0 1 2"},
	})
	for _, g := range slices.Concat(allGraphs(1, 1), allGraphs(2, 1), allGraphs(3, 1)) {
		trimmed, names := impl.TrimGraph(g)
		checkGraph(t, trimmed, impl.IsCore(g), g, true, "TrimGraph", g)
		checkList(t, names, []int{0}, "TrimGraph", g)
		checkGraph(t, impl.CoreGraph(g), true, g, true, "CoreGraph", g)
		checkList(t, impl.CanonicalOrder(g), []int{0}, "CanonicalOrder", g)
		checkGraph(t, impl.CanonicalGraph(g), true, g, true, "CanonicalGraph", g)
		order := []int{0}
		renumbered, ok := impl.RenumberGraph(g, order)
		checkGraph(t, renumbered, ok, g, true, "RenumberGraph", g, order)
		if impl.IsTree(g) != (len(g.Edges) == 0) {
			t.Errorf("IsTree(%v) is %t", g, impl.IsTree(g))
		}
	}
}

// Graphs from which nothing is removed, and which are returned with all their numbers.
func TestGraphsWithNothingToTrim(t *testing.T) {
	for _, g := range []graph{
		ringGraph(maxVertices, 1), ringGraph(maxVertices, 1, 7, 39), ringGraph(maxVertices, 39), ringGraph(12, 4, 3), ringGraph(1, 0, 0, 0), graphOf(3, 1),
		graphOf(1, 11, edgesOfAll(1, 11)[:maxEdges]...), drawn("2 2 0a0 0a1 0b0 0b1 1a0 1a1 1b0 1b1"), drawn("1 2 0a0 0a1 1a1"),
	} {
		trimmed, names := impl.TrimGraph(g)
		checkGraph(t, trimmed, true, g, true, "TrimGraph", g)
		checkList(t, names, namesUpTo(g.Size), "TrimGraph", g)
	}
}

// Trimming leaves no tree beside the base, is done at once, keeps all circles at the base and all loops that can be read there.
func TestTrimmingLeavesNoTree(t *testing.T) {
	for _, g := range graphsToTrim() {
		trimmed, _ := impl.TrimGraph(g)
		for v := 1; v < trimmed.Size; v++ {
			if impl.DegreeOf(trimmed, v) < 2 {
				t.Errorf("TrimGraph(%v) = %v leaves %d", g, trimmed, v)
			}
		}
		if !impl.IsConnected(trimmed) {
			t.Errorf("TrimGraph(%v) = %v is not connected", g, trimmed)
		}
		again, names := impl.TrimGraph(trimmed)
		checkGraph(t, again, true, trimmed, true, "TrimGraph", trimmed)
		checkList(t, names, namesUpTo(trimmed.Size), "TrimGraph", trimmed)
		part, _ := wantRenumber(g, wantReached(g, 0))
		if len(part.Edges)-part.Size != len(trimmed.Edges)-trimmed.Size {
			t.Errorf("TrimGraph(%v) = %v loses a circle", g, trimmed)
		}
	}
	for _, g := range slices.Concat(foldedAmong(overgrownGraphs(200)), foldedGraphs(2, 2), everyNth(foldedGraphs(2, 3), 9)) {
		trimmed, _ := impl.TrimGraph(g)
		if before, after := wantLoops(g, 0, 4), impl.LoopWords(trimmed, 0, 4); !equalLists(before, after) {
			t.Errorf("the base of %v has the loops %v, but %v in %v", g, before, after, trimmed)
		}
	}
}

// All lists of some numbers, orders or not, for small graphs.
func TestRenumberGraph(t *testing.T) {
	orders := listsOver([]int{-1, 0, 1, 2, 3}, 4)
	for _, g := range slices.Concat(allGraphs(1, 1), allGraphs(2, 1), allGraphs(1, 2), everyNth(allGraphs(2, 2), 25), everyNth(allGraphs(1, 3), 25), []graph{drawn("3 3 0a1 0b2 1c0 1c2 2a2"), drawn("1 4 0a1 1a2 2a3 3a0")}) {
		for _, order := range orders {
			checkRenumber(t, g, order)
		}
	}
	r := rand.New(rand.NewPCG(8, 2))
	for _, g := range slices.Concat(limitGraphs(), largeFoldedGraphs(), unfoldedGraphs(), randomGraphs(120)) {
		for range 3 {
			order := r.Perm(g.Size)
			checkRenumber(t, g, order)
			checkRenumber(t, g, order[:1+r.IntN(g.Size)])
		}
	}
}

func TestRenumberGraphExamples(t *testing.T) {
	for _, c := range []struct {
		g     string
		order string
		want  string
	}{
		{"2 3 0b2 1a0 2a1", "0 1 2", "2 3 0b2 1a0 2a1"},
		{"2 3 0b2 1a0 2a1", "0 2 1", "2 3 0b1 1a2 2a0"},
		{"2 3 0b2 1a0 2a1", "2 0 1", "2 3 0a2 1b0 2a1"},
		{"2 3 0b2 1a0 2a1", "2 1", "2 2 0a1"},
		{"2 3 0b2 1a0 2a1", "1 2", "2 2 1a0"},
		{"2 3 0b2 1a0 2a1", "1", "2 1"},
		{"2 2 0a0 0a1 0b1 1b1", "1", "2 1 0b0"},
		{"2 2 0a0 0a1 0b1 1b1", "0", "2 1 0a0"},
		{"2 2 0a0 0a1 0b1 1b1", "1 0", "2 2 0b0 1a0 1a1 1b0"},
		{"1 5 0a1 0a4 1a2 2a3 3a1 4a0", "4 3 1", "1 3 1a2"},
		{"1 5 0a1 0a4 1a2 2a3 3a1 4a0", "3 2 1", "1 3 0a2 1a0 2a1"},
		{"3 3", "2 0", "3 2"},
	} {
		got, ok := impl.RenumberGraph(drawn(c.g), namesIn(c.order))
		if s := wantFormatGraph(got); s != c.want || !ok {
			t.Errorf("RenumberGraph(%s, %s) = %s, %t, want %s", c.g, c.order, s, ok, c.want)
		}
	}
}

// An order that is empty, too long, with a number that is no vertex or with one twice: in each way the graph is unchanged.
func TestOrdersThatAreNone(t *testing.T) {
	for _, g := range slices.Concat(everyNth(smallGraphs(), 7), limitGraphs(), unfoldedGraphs(), largeFoldedGraphs()) {
		all := namesUpTo(g.Size)
		orders := [][]int{nil, {}, append(slices.Clone(all), 0), append(slices.Clone(all), all...), {0, 0}, append(slices.Clone(all), g.Size), append([]int{0}, all...), slices.Repeat([]int{0}, 100000)}
		for _, v := range strangeVertices(g) {
			if !isThere(g, v) {
				orders = append(orders, []int{v}, append([]int{v}, all...), append([]int{v}, all[1:]...), append(slices.Clone(all[1:]), v), append(slices.Clone(all), v))
			}
		}
		for _, v := range []int{0, g.Size / 2, g.Size - 1} {
			orders = append(orders, []int{v, v}, append([]int{v}, all[:g.Size-1]...))
		}
		for _, order := range orders {
			if !isOrder(g, order) {
				got, ok := impl.RenumberGraph(g, order)
				checkGraph(t, got, ok, g, false, "RenumberGraph", g, len(order))
			}
		}
	}
	for s, want := range map[string]bool{
		"": false, "0": true, "1": true, "2": false, "-1": false, "0 1": true, "1 0": true, "0 0": false, "1 1": false, "0 2": false, "2 0": false, "0 -1": false, "0 1 0": false, "0 1 1": false, "0 1 2": false, "9223372036854775807": false, "-9223372036854775808": false, "0 4294967297": false,
	} {
		if _, ok := impl.RenumberGraph(drawn("2 2 0a1 1b0"), namesIn(s)); ok != want {
			t.Errorf("RenumberGraph with the order %q is %t", s, ok)
		}
	}
}

// Only the edges between the vertices of the order stay, each once and in order; renumbering back gives all of them again.
func TestRenumberingKeepsEdges(t *testing.T) {
	r := rand.New(rand.NewPCG(8, 3))
	for _, g := range slices.Concat(everyNth(smallGraphs(), 5), limitGraphs(), unfoldedGraphs(), randomGraphs(120)) {
		order := r.Perm(g.Size)
		inverse := make([]int, g.Size)
		for i, v := range order {
			inverse[v] = i
		}
		there, ok := impl.RenumberGraph(g, order)
		if !ok || !impl.IsGraph(there) || len(there.Edges) != len(g.Edges) {
			t.Errorf("RenumberGraph(%v, %v) = %v, %t", g, order, there, ok)
		}
		back, ok := impl.RenumberGraph(there, inverse)
		checkGraph(t, back, ok, g, true, "RenumberGraph", there, inverse)
		some, ok := impl.RenumberGraph(g, order[:1+r.IntN(g.Size)])
		if !ok || !impl.IsGraph(some) {
			t.Errorf("RenumberGraph(%v, a part of %v) = %v, %t", g, order, some, ok)
		}
	}
}

func TestCanonicalOrder(t *testing.T) {
	for _, g := range slices.Concat(graphsToTrim(), foldedGraphs(3, 2), foldedGraphs(2, 3), foldedAmong(limitGraphs())) {
		checkCanonical(t, g)
	}
}

func TestCanonicalExamples(t *testing.T) {
	for _, c := range []struct {
		g     string
		order string
		want  string
	}{
		{"2 3 0b2 1a0 2a1", "0 1 2", "2 3 0b2 1a0 2a1"},
		{"2 3 0a2 1a0 2b1", "0 2 1", "2 3 0a1 1b2 2a0"},
		// A letter comes before its inverse, and both before the next letter.
		{"2 5 0a4 0b2 1b0 3a0", "0 4 3 2 1", "2 5 0a1 0b3 2a0 4b0"},
		{"3 7 0a6 0b4 0c2 1c0 3b0 5a0", "0 6 5 4 3 2 1", "3 7 0a1 0b3 0c5 2a0 4b0 6c0"},
		// The vertices are visited in the order in which they were found, not one behind the other.
		{"2 5 0a1 0b2 1b3 2a4", "0 1 2 3 4", "2 5 0a1 0b2 1b3 2a4"},
		{"2 5 0a2 0b1 1a3 2b4", "0 2 1 4 3", "2 5 0a1 0b2 1b3 2a4"},
		{"2 4 0b1 1a2 3a0", "0 3 1 2", "2 4 0b2 1a0 2a3"},
		// A vertex counts where it is found first.
		{"2 3 0a1 0b2 1a2", "0 1 2", "2 3 0a1 0b2 1a2"},
		{"2 3 0a2 0b1 2a1", "0 2 1", "2 3 0a1 0b2 1a2"},
		// Vertices that cannot be reached are left out, with their edges.
		{"1 1", "0", "1 1"},
		{"1 5", "0", "1 1"},
		{"2 4 0a0 1a2 2b3 3a1", "0", "2 1 0a0"},
		{"2 5 0b3 1a2 2a1 3a0 4b4", "0 3", "2 2 0b1 1a0"},
		{"2 5 0a4 1a1 2a3 4b4", "0 4", "2 2 0a1 1b1"},
		// Trees are not trimmed.
		{"1 4 0a3 2a1 3a2", "0 3 2 1", "1 4 0a1 1a2 2a3"},
		// Graphs that are not folded have no order, and stay as they are.
		{"1 3 0a1 0a2", "", "1 3 0a1 0a2"},
		{"1 3 0a2 1a2", "", "1 3 0a2 1a2"},
		{"1 4 0a0 2a1 3a1", "", "1 4 0a0 2a1 3a1"},
	} {
		g := drawn(c.g)
		checkList(t, impl.CanonicalOrder(g), namesIn(c.order), "CanonicalOrder", c.g)
		if got := wantFormatGraph(impl.CanonicalGraph(g)); got != c.want {
			t.Errorf("CanonicalGraph(%s) = %s, want %s", c.g, got, c.want)
		}
	}
}

// The order is that of the words of PathWord, and holds just the vertices to which there is one.
func TestCanonicalOrderIsThatOfPathWord(t *testing.T) {
	for _, g := range slices.Concat(foldedGraphs(2, 2), everyNth(foldedGraphs(2, 3), 3), largeFoldedGraphs(), foldedAmong(overgrownGraphs(200))) {
		order := impl.CanonicalOrder(g)
		for i, v := range order {
			w, ok := impl.PathWord(g, 0, v)
			if !ok {
				t.Errorf("CanonicalOrder(%v) has %d", g, v)
			}
			if i > 0 {
				before, _ := impl.PathWord(g, 0, order[i-1])
				if impl.CompareWords(before, w) != -1 {
					t.Errorf("CanonicalOrder(%v) = %v has %v before %v", g, order, before, w)
				}
			}
		}
		checkList(t, slices.Sorted(slices.Values(order)), impl.ReachedFrom(g, 0), "CanonicalOrder", g)
	}
}

func TestGraphsThatAreNotFolded(t *testing.T) {
	graphs := slices.DeleteFunc(slices.Concat(smallGraphs(), unfoldedGraphs(), limitGraphs(), randomGraphs(60)), wantIsFolded)
	for _, g := range graphs {
		checkList(t, impl.CanonicalOrder(g), nil, "CanonicalOrder", g)
		checkGraph(t, impl.CanonicalGraph(g), !impl.IsCore(g), g, true, "CanonicalGraph", g)
	}
}

// leastFormat describes a graph without its names: the first of the formats under all names that leave the base.
func leastFormat(g graph) string {
	least := ""
	for _, names := range permutationsOf(namesUpTo(g.Size)[1:]) {
		renamed, _ := wantRenumber(g, append([]int{0}, names...))
		if s := wantFormatGraph(renamed); least == "" || s < least {
			least = s
		}
	}
	return least
}

// Connected graphs have the same canonical graph exactly if they differ by the names of vertices only.
func TestCanonicalGraphsTellGraphsApart(t *testing.T) {
	for _, l := range [][]graph{foldedGraphs(2, 3), foldedGraphs(1, 4), foldedGraphs(3, 2), everyNth(foldedGraphs(2, 4)[20000:], 97)} {
		canonicalOf, formatOf := map[string]string{}, map[string]string{}
		for _, g := range l {
			if len(wantReached(g, 0)) < g.Size {
				continue
			}
			format, canonical := leastFormat(g), wantFormatGraph(impl.CanonicalGraph(g))
			if canonicalOf[format] == "" && formatOf[canonical] == "" {
				canonicalOf[format], formatOf[canonical] = canonical, format
			}
			if canonicalOf[format] != canonical || formatOf[canonical] != format {
				t.Errorf("CanonicalGraph(%v) = %s, but also of %s, which has %s", g, canonical, formatOf[canonical], canonicalOf[format])
			}
		}
		if len(formatOf) < 2 {
			t.Errorf("there are only %d canonical graphs", len(formatOf))
		}
	}
}

// Canonical numbers depend on nothing but the graph: not on its names, nor on parts that cannot be reached. They are their own canonical numbers.
func TestCanonicalNumbersDoNotDependOnNames(t *testing.T) {
	r := rand.New(rand.NewPCG(8, 4))
	for _, g := range slices.Concat(largeFoldedGraphs(), everyNth(foldedGraphs(2, 3), 3), foldedAmong(overgrownGraphs(300)), foldedAmong(limitGraphs())) {
		canonical := impl.CanonicalGraph(g)
		for range 5 {
			renamed, _ := wantRenumber(g, shuffled(r, g))
			checkGraph(t, impl.CanonicalGraph(renamed), true, canonical, true, "CanonicalGraph", g, renamed)
		}
		checkList(t, impl.CanonicalOrder(canonical), namesUpTo(canonical.Size), "CanonicalOrder", canonical)
		checkGraph(t, impl.CanonicalGraph(canonical), impl.IsConnected(canonical), canonical, true, "CanonicalGraph", canonical)
		if g.Size < maxVertices {
			larger := graphOf(g.Rank, g.Size+1, append(slices.Clone(g.Edges), edge(g.Size, 1, g.Size))...)
			checkGraph(t, impl.CanonicalGraph(larger), true, canonical, true, "CanonicalGraph", larger)
		}
	}
	names := permutationsOf([]int{1, 2, 3})
	for _, g := range slices.Concat(foldedGraphs(1, 4), everyNth(foldedGraphs(2, 4), 499)) {
		for _, behind := range names {
			renamed, _ := wantRenumber(g, append([]int{0}, behind...))
			checkGraph(t, impl.CanonicalGraph(renamed), true, wantCanonical(g), true, "CanonicalGraph", g, renamed)
		}
	}
}

func TestCoreGraph(t *testing.T) {
	for _, g := range slices.Concat(graphsToTrim(), sampleFlowers()) {
		checkCore(t, g)
	}
}

func TestCoreGraphExamples(t *testing.T) {
	for _, c := range []struct {
		g    string
		want string
	}{
		{"2 3 0a1 1b2 2a1", "2 2 0a1 1b0"},
		{"2 3 0a1 0a2 0b2 1b0", "2 2 0a1 0b1 1b0"},
		{"2 5 0a1 1b2 2a1 2b3", "2 2 0a1 1b0"},
		{"1 3 0a1 0a2", "1 1"},
		{"1 4 0a1 1a2 2a3 3a3", "1 1 0a0"},
		// A tree that folding makes is trimmed, and a circle that folding makes stays.
		{"2 4 0a1 0a2 0b0 1b3 2b3", "2 1 0b0"},
		{"2 4 0a1 0a2 1b3 2b3 3a3", "2 3 0a1 1b2 2a2"},
		{"2 3 0a1 0a2 1b2", "2 2 0a1 1b1"},
		// What is folded and trimmed is numbered anew.
		{"2 3 0a2 1a0 2b1", "2 3 0a1 1b2 2a0"},
		{"2 4 0b3 1b0 2a1 3a2", "2 4 0b1 1a3 2b0 3a2"},
		{"2 5 0a4 0b0 1a1 2b4 4b3", "2 1 0b0"},
	} {
		if got := wantFormatGraph(impl.CoreGraph(drawn(c.g))); got != c.want {
			t.Errorf("CoreGraph(%s) = %s, want %s", c.g, got, c.want)
		}
	}
}

// checkSameCore expects a graph to have the given core, and tells otherwise how the graph was made.
func checkSameCore(t *testing.T, g graph, want graph, how ...any) {
	t.Helper()
	checkGraph(t, impl.CoreGraph(g), true, want, true, "CoreGraph", g, how)
}

// Whatever fold is taken first, the core is the same.
func TestCoreDoesNotDependOnTheFirstFold(t *testing.T) {
	for _, g := range graphsToFoldAndTrim() {
		core := impl.CoreGraph(g)
		possible := wantPossible(g)
		for _, f := range everyNth(possible, 1+len(possible)/20) {
			merged, _ := wantMerge(g, f)
			checkSameCore(t, merged, core, f)
			replayed, ok := impl.ReplayFolds(g, []fold{f})
			if !ok {
				t.Errorf("ReplayFolds(%v, %v) is false", g, f)
			}
			checkSameCore(t, replayed, core, f)
		}
	}
}

// Any order of folds, all at once or with a pause, and with trimming before, between or behind them, ends in the same core.
func TestCoreDoesNotDependOnTheOrderOfFolds(t *testing.T) {
	r := rand.New(rand.NewPCG(8, 5))
	for _, g := range graphsToFoldAndTrim() {
		core := impl.CoreGraph(g)
		trimmedFirst, _ := impl.TrimGraph(g)
		checkSameCore(t, trimmedFirst, core, "trimmed first")
		for range 4 {
			choices := make([]int, g.Size)
			for i := range choices {
				choices[i] = r.IntN(1000)
			}
			folded, l := impl.FoldInOrder(g, choices)
			trimmed, _ := impl.TrimGraph(folded)
			checkGraph(t, impl.CanonicalGraph(trimmed), true, core, true, "CanonicalGraph", g, choices)
			partly, ok := impl.ReplayFolds(g, l[:len(l)/2])
			if !ok {
				t.Errorf("ReplayFolds(%v, %v) is false", g, l)
			}
			checkSameCore(t, partly, core, l)
			trimmedPartly, _ := impl.TrimGraph(partly)
			checkSameCore(t, trimmedPartly, core, l)
		}
	}
}

// The names of the vertices, but for that of the base, do not matter for the core, nor does what is numbered before what.
func TestCoreDoesNotDependOnNames(t *testing.T) {
	r := rand.New(rand.NewPCG(8, 6))
	for _, g := range slices.Concat(graphsToFoldAndTrim(), largeFoldedGraphs(), limitGraphs()) {
		core := impl.CoreGraph(g)
		for range 4 {
			order := shuffled(r, g)
			renamed, ok := impl.RenumberGraph(g, order)
			if !ok {
				t.Errorf("RenumberGraph(%v, %v) is false", g, order)
			}
			checkSameCore(t, renamed, core, order)
		}
	}
}

// Generators in another order, inverted, listed twice, with empty words or with a product of them have the same core.
func TestCoreDoesNotDependOnGenerators(t *testing.T) {
	for _, l := range slices.Concat(wordLists(reducedWords(2, 2), 2), everyNth(wordLists(reducedWords(3, 2), 2), 11)) {
		g, ok := wantFlower(3, l)
		if !ok || len(l) == 0 {
			continue
		}
		core := impl.CoreGraph(g)
		inverted := slices.Clone(l)
		inverted[0] = wantInvert(l[0])
		backwards := slices.Clone(l)
		slices.Reverse(backwards)
		for _, m := range [][][]int{inverted, backwards, append(slices.Clone(l), l[0]), append([][]int{nil}, l...), append(slices.Clone(l), wantProduct(l[len(l)-1], l[0]))} {
			h, ok := wantFlower(3, m)
			if !ok {
				t.Fatalf("%v are no words", m)
			}
			checkSameCore(t, h, core, l, m)
		}
		for _, w := range l {
			if end, ok := impl.WalkWord(core, 0, w); end != 0 || !ok {
				t.Errorf("%v leads to %d in %v, %t", w, end, core, ok)
			}
		}
	}
}

// Folding and trimming change no loop that can be read at the base of the folded graph.
func TestCoresKeepTheLoopsOfTheBase(t *testing.T) {
	for _, g := range slices.Concat(everyNth(smallGraphs(), 9), unfoldedGraphs()[:11], everyNth(overgrownGraphs(200), 3), everyNth(sampleFlowers(), 19)) {
		if before, after := wantLoops(wantFolded(g), 0, 4), impl.LoopWords(impl.CoreGraph(g), 0, 4); !equalLists(before, after) {
			t.Errorf("the base of %v has the loops %v, but %v in its core", g, before, after)
		}
	}
}

// A core is its own core, in all three steps.
func TestACoreIsItsOwnCore(t *testing.T) {
	for _, g := range slices.Concat(graphsToTrim(), sampleFlowers()) {
		core := impl.CoreGraph(g)
		if !impl.IsCore(core) || !impl.IsFolded(core) || !impl.IsConnected(core) || core.Rank != g.Rank {
			t.Errorf("CoreGraph(%v) = %v is no core", g, core)
		}
		checkSameCore(t, core, core)
		folded, l := impl.FoldAll(core)
		checkGraph(t, folded, len(l) == 0, core, true, "FoldAll", core)
		trimmed, names := impl.TrimGraph(core)
		checkGraph(t, trimmed, len(names) == core.Size, core, true, "TrimGraph", core)
		checkGraph(t, impl.CanonicalGraph(core), true, core, true, "CanonicalGraph", core)
		if impl.IsCore(g) != wantEqualGraphs(g, core) {
			t.Errorf("IsCore(%v) is %t, and its core is %v", g, impl.IsCore(g), core)
		}
	}
}

// Graphs that lack one of the three properties of a core, and such that have all of them.
func TestIsCoreExamples(t *testing.T) {
	for _, c := range []struct {
		g    string
		want bool
	}{
		{"2 1", true}, {"1 1", true}, {"3 1", true}, {"1 1 0a0", true}, {"3 1 0a0 0b0 0c0", true},
		{"2 3 0a1 1b2 2a0", true}, {"2 2 0a1 1b0", true}, {"2 2 0a1 0b1", true}, {"2 2 0a1 1b1", true}, {"2 3 1a0 2a2 2b1", true}, {"2 3 0a1 0b2 1b1 2a2", true}, {"3 3 0b1 0c2 1a1 2a2", true}, {"2 3 0a1 1b0 2a0 2b1", true},
		// Folded and trimmed, but not canonical.
		{"2 3 0a2 1a0 2b1", false}, {"2 3 0a2 1a1 2b1", false}, {"2 3 0a2 0b1 1a1 2b2", false}, {"1 3 0a2 1a0 2a1", false}, {"3 3 0b2 0c1 1a1 2a2", false}, {"2 3 0a2 0b1 1b0 2a0", false},
		// Folded and canonical, but not trimmed.
		{"2 2 0a1", false}, {"2 2 1a0", false}, {"2 3 0a0 0b1 1b2", false}, {"2 3 0a1 0b2 1b1", false}, {"1 3 0a1 1a2", false},
		// With vertices that are not connected with the base.
		{"2 2", false}, {"2 2 0a0", false}, {"2 2 0a0 1a1 1b1", false}, {"2 3 0a1 1a0 2b2", false},
		// Trimmed, but not folded.
		{"1 2 0a1 1a1", false}, {"2 3 0a1 1b2 2a1", false}, {"1 2 0a0 0a1 1a0", false}, {"2 3 0a1 0a2 1b2", false},
	} {
		if got := impl.IsCore(drawn(c.g)); got != c.want {
			t.Errorf("IsCore(%s) is %t", c.g, got)
		}
		checkCore(t, drawn(c.g))
	}
	// A core under any other names is none, unless these are no others.
	for _, g := range everyNth(foldedGraphs(2, 4), 29) {
		if core := impl.CoreGraph(g); core.Size == 4 {
			for _, names := range permutationsOf([]int{1, 2, 3}) {
				renamed, _ := wantRenumber(core, append([]int{0}, names...))
				if impl.IsCore(renamed) != wantEqualGraphs(renamed, core) {
					t.Errorf("IsCore(%v) is %t, with the core %v", renamed, impl.IsCore(renamed), core)
				}
			}
		}
	}
}

func TestIsTree(t *testing.T) {
	for _, g := range slices.Concat(smallGraphs(), everyNth(allGraphs(3, 2), 3), foldedGraphs(1, 4), everyNth(foldedGraphs(2, 3), 3), unfoldedGraphs(), largeFoldedGraphs(), limitGraphs(), overgrownGraphs(200)) {
		if got, want := impl.IsTree(g), wantIsTree(g); got != want {
			t.Errorf("IsTree(%v) = %t, want %t", g, got, want)
		}
	}
}

func TestIsTreeExamples(t *testing.T) {
	for _, c := range []struct {
		g    string
		want bool
	}{
		{"1 1", true}, {"3 1", true}, {"2 2 0a1", true}, {"2 2 1b0", true}, {"1 3 0a1 1a2", true}, {"1 3 0a1 2a1", true}, {"3 4 1b2 1c0 3a1", true},
		// Graphs that are not folded may be trees.
		{"1 3 0a1 0a2", true}, {"1 3 0a2 1a2", true}, {"2 4 0a1 0a2 3a0", true},
		// Connected graphs with a loop, a circle or two edges between the same vertices.
		{"1 1 0a0", false}, {"2 2 0a0 0b1", false}, {"2 2 0a1 1b1", false}, {"1 3 0a1 1a2 2a0", false}, {"2 2 0a1 0b1", false}, {"1 2 0a1 1a0", false}, {"2 3 0a1 0b1 1a2", false},
		// Graphs that are not connected, with too few edges.
		{"2 2", false}, {"2 3 0a1", false}, {"2 3 1a2", false}, {"1 40", false},
		// Graphs that are not connected, with Size - 1 edges.
		{"2 2 0a0", false}, {"2 2 1a1", false}, {"2 3 0a0 0b0", false}, {"2 3 0a1 0b1", false}, {"2 3 0a1 1b0", false}, {"2 3 0a1 2a2", false}, {"2 3 1a2 2a1", false}, {"2 4 0a1 1a2 2a0", false}, {"2 4 0a0 1a2 2b3", false}, {"2 5 0a1 2a3 3a4 4a2", false},
	} {
		if got := impl.IsTree(drawn(c.g)); got != c.want {
			t.Errorf("IsTree(%s) is %t", c.g, got)
		}
	}
	for _, letters := range [][]int{{1}, {3, 2}} {
		line := lineGraph(3, maxVertices, letters...)
		circle := graphOf(3, maxVertices, append(slices.Clone(line.Edges), edge(maxVertices-1, 1, 0))...)
		apart := graphOf(3, maxVertices, append(slices.Clone(line.Edges[:maxVertices-2]), edge(maxVertices-2, 1, 0))...)
		if !impl.IsTree(line) || impl.IsTree(circle) || impl.IsTree(apart) || len(apart.Edges) != maxVertices-1 || !impl.IsGraph(apart) {
			t.Errorf("IsTree of lines and circles with %v is %t, %t, %t", letters, impl.IsTree(line), impl.IsTree(circle), impl.IsTree(apart))
		}
	}
}

// Each function has its fixed result for graphs that are not valid.
func TestCoresOfGraphsThatAreNotValid(t *testing.T) {
	for _, g := range invalidToFold() {
		trimmed, names := impl.TrimGraph(g)
		checkGraph(t, trimmed, len(names) == 0, g, true, "TrimGraph", g.Size)
		for _, order := range [][]int{nil, {}, {0}, {1}, {0, 1}, {1, 0}, {0, 1, 2}, {2, 1, 0}, {-1}, {41}, {math.MaxInt - 1}, {math.MinInt}, namesUpTo(maxVertices), namesUpTo(maxVertices + 1)} {
			got, ok := impl.RenumberGraph(g, order)
			checkGraph(t, got, ok, g, false, "RenumberGraph", g.Size, order)
		}
		checkList(t, impl.CanonicalOrder(g), nil, "CanonicalOrder", g.Size)
		checkGraph(t, impl.CanonicalGraph(g), true, g, true, "CanonicalGraph", g.Size)
		checkGraph(t, impl.CoreGraph(g), true, g, true, "CoreGraph", g.Size)
		if impl.IsCore(g) || impl.IsTree(g) {
			t.Errorf("a graph of %d vertices that is not valid is a core or a tree: %t, %t", g.Size, impl.IsCore(g), impl.IsTree(g))
		}
	}
}

// Lists with nothing in them are treated alike, whether they are nil or empty.
func TestCoresWithEmptyLists(t *testing.T) {
	for _, edges := range [][]impl.Edge{nil, {}} {
		one, two := graph{Rank: 2, Size: 1, Edges: edges}, graph{Rank: 2, Size: 2, Edges: edges}
		if !impl.IsCore(one) || !impl.IsTree(one) || impl.IsCore(two) || impl.IsTree(two) {
			t.Errorf("IsCore and IsTree without edges: %t, %t, %t, %t", impl.IsCore(one), impl.IsTree(one), impl.IsCore(two), impl.IsTree(two))
		}
		for _, g := range []graph{one, two} {
			checkTrim(t, g)
			checkCanonical(t, g)
			checkCore(t, g)
			for _, order := range [][]int{nil, {}, {0}} {
				checkRenumber(t, g, order)
			}
		}
		invalid := graph{Rank: 4, Size: 1, Edges: edges}
		trimmed, names := impl.TrimGraph(invalid)
		checkGraph(t, trimmed, len(names) == 0, invalid, true, "TrimGraph", invalid)
	}
}

// Arguments keep their elements and unused capacity, and a change to a result changes no argument, no other result and no later one.
func TestCoresShareNoMemory(t *testing.T) {
	for _, original := range slices.Concat(everyNth(smallGraphs(), 5), limitGraphs(), unfoldedGraphs(), largeFoldedGraphs(), invalidGraphs(), overgrownGraphs(40)) {
		g, memory := graphWithRoom(original)
		order, memoryOfOrder := withRoom(namesUpTo(max(min(original.Size, maxVertices), 0)))
		slices.Reverse(order)
		wantMemory, wantOrders := slices.Clone(memory), slices.Clone(memoryOfOrder)
		calls := []func() (graph, []int){
			func() (graph, []int) { return impl.TrimGraph(g) },
			func() (graph, []int) { h, _ := impl.RenumberGraph(g, order); return h, nil },
			func() (graph, []int) { h, _ := impl.RenumberGraph(g, memoryOfOrder); return h, nil },
			func() (graph, []int) { h, _ := impl.RenumberGraph(g, nil); return h, nil },
			func() (graph, []int) { return graph{}, impl.CanonicalOrder(g) },
			func() (graph, []int) { return impl.CanonicalGraph(g), nil },
			func() (graph, []int) { return impl.CoreGraph(g), nil },
		}
		for i, call := range calls {
			got, names := call()
			want, wantNames := graphOf(got.Rank, got.Size, slices.Clone(got.Edges)...), slices.Clone(names)
			overwrittenGraph(got)
			checkList(t, names, wantNames, "the other result", i, original)
			overwritten(names)
			again, namesAgain := call()
			checkGraph(t, again, true, want, true, "the same call again", i, original)
			checkList(t, namesAgain, wantNames, "the same call again", i, original)
		}
		impl.IsCore(g)
		impl.IsTree(g)
		if !slices.Equal(memory, wantMemory) {
			t.Errorf("the edges of %v have changed to %v", original, memory)
		}
		checkList(t, memoryOfOrder, wantOrders, "orders", original)
	}
}

// Calls at the same time have no state in common, even for the same graph.
func TestCoresAtTheSameTime(t *testing.T) {
	graphs := slices.Concat(limitGraphs(), unfoldedGraphs(), overgrownGraphs(60))
	var cores [8][]graph
	var group sync.WaitGroup
	for i := range cores {
		group.Go(func() {
			for _, g := range graphs {
				trimmed, _ := impl.TrimGraph(g)
				cores[i] = append(cores[i], impl.CoreGraph(g), impl.CoreGraph(trimmed))
			}
		})
	}
	group.Wait()
	for k, g := range graphs {
		want := wantCoreGraph(g)
		for i := range cores {
			checkGraph(t, cores[i][2*k], true, want, true, "CoreGraph", g, i)
			checkGraph(t, cores[i][2*k+1], true, want, true, "CoreGraph of TrimGraph", g, i)
		}
	}
}
