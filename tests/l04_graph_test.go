package tests

import (
	"math"
	"regexp"
	"slices"
	"strconv"
	"strings"
	"testing"

	"loop.example/g02075/impl"
)

// Promise 16, as far as chapter 4 goes: graphs, with their edges in order, can be parsed from their string format.
// The wanted results are computed here in the plainest way, from the definitions of the chapter.

const (
	maxVertices = 40
	maxEdges    = 120
)

type graph = impl.Graph

func edge(from int, letter int, to int) impl.Edge {
	return impl.Edge{From: from, Letter: letter, To: to}
}

func graphOf(rank int, size int, edges ...impl.Edge) graph {
	return graph{Rank: rank, Size: size, Edges: edges}
}

func wantCompareEdges(a impl.Edge, b impl.Edge) int {
	return slices.Compare([]int{a.From, a.Letter, a.To}, []int{b.From, b.Letter, b.To})
}

func wantFits(g graph, e impl.Edge) bool {
	return 0 <= e.From && e.From < g.Size && 1 <= e.Letter && e.Letter <= g.Rank && 0 <= e.To && e.To < g.Size
}

func wantIsGraph(g graph) bool {
	if !slices.Contains([]int{1, 2, 3}, g.Rank) || g.Size <= 0 || g.Size >= 41 || len(g.Edges) >= 121 {
		return false
	}
	for i, e := range g.Edges {
		if !wantFits(g, e) {
			return false
		}
		for _, later := range g.Edges[i+1:] {
			if wantCompareEdges(e, later) != -1 {
				return false
			}
		}
	}
	return true
}

func wantAddEdge(g graph, e impl.Edge) (graph, bool) {
	if !wantIsGraph(g) || !wantFits(g, e) || slices.Contains(g.Edges, e) || len(g.Edges) == maxEdges {
		return g, false
	}
	edges := append(slices.Clone(g.Edges), e)
	slices.SortFunc(edges, wantCompareEdges)
	return graphOf(g.Rank, g.Size, edges...), true
}

// wantSteps tries all numbers that an edge of the graph has as a vertex.
func wantSteps(g graph, v int, letter int) []int {
	var ends []int
	for _, e := range g.Edges {
		ends = append(ends, e.From, e.To)
	}
	slices.Sort(ends)
	return slices.DeleteFunc(slices.Compact(ends), func(u int) bool {
		if letter < 0 {
			return letter == math.MinInt || !slices.Contains(g.Edges, edge(u, -letter, v))
		}
		return !slices.Contains(g.Edges, edge(v, letter, u))
	})
}

func wantDegree(g graph, v int) int {
	n := 0
	for _, e := range g.Edges {
		for _, u := range []int{e.From, e.To} {
			if u == v {
				n++
			}
		}
	}
	return n
}

func wantFormatGraph(g graph) string {
	if !wantIsGraph(g) {
		return ""
	}
	s := strconv.Itoa(g.Rank) + " " + strconv.Itoa(g.Size)
	for _, e := range g.Edges {
		s += " " + strconv.Itoa(e.From) + []string{"a", "b", "c"}[e.Letter-1] + strconv.Itoa(e.To)
	}
	return s
}

const (
	vertexPattern = "([123][0-9]|[0-9])"
	edgePattern   = " " + vertexPattern + "([abc])" + vertexPattern
)

var (
	graphText = regexp.MustCompile("^([123]) ([1-9]|[123][0-9]|40)((?:" + edgePattern + ")*)$")
	edgeText  = regexp.MustCompile(edgePattern)
)

func wantParseGraph(s string) (graph, bool) {
	parts := graphText.FindStringSubmatch(s)
	if parts == nil {
		return graph{}, false
	}
	rank, _ := strconv.Atoi(parts[1])
	size, _ := strconv.Atoi(parts[2])
	g := graphOf(rank, size)
	for _, e := range edgeText.FindAllStringSubmatch(parts[3], -1) {
		from, _ := strconv.Atoi(e[1])
		to, _ := strconv.Atoi(e[3])
		g.Edges = append(g.Edges, edge(from, strings.Index(" abc", e[2]), to))
	}
	if !wantIsGraph(g) {
		return graph{}, false
	}
	return g, true
}

func wantEqualGraphs(a graph, b graph) bool {
	return a.Rank == b.Rank && a.Size == b.Size && slices.Equal(a.Edges, b.Edges)
}

// edgesOfAll returns all edges that a graph may have, in order.
func edgesOfAll(rank int, size int) []impl.Edge {
	var l []impl.Edge
	for from := range size {
		for letter := range rank {
			for to := range size {
				l = append(l, edge(from, letter+1, to))
			}
		}
	}
	return l
}

// allGraphs returns all valid graphs of a rank and a size.
func allGraphs(rank int, size int) []graph {
	l := []graph{graphOf(rank, size)}
	for _, e := range edgesOfAll(rank, size) {
		for _, g := range l {
			l = append(l, graphOf(rank, size, append(slices.Clone(g.Edges), e)...))
		}
	}
	return l
}

func smallGraphs() []graph {
	return slices.Concat(allGraphs(1, 1), allGraphs(2, 1), allGraphs(3, 1), allGraphs(1, 2), allGraphs(2, 2), allGraphs(1, 3))
}

// limitGraphs returns graphs with the most vertices, the most edges or both.
func limitGraphs() []graph {
	var all, round, in []impl.Edge
	for v := range maxVertices {
		for letter := 1; letter <= 3; letter++ {
			round = append(round, edge(v, letter, (v*letter+7)%maxVertices))
			in = append(in, edge(v, letter, maxVertices-1))
		}
	}
	all = edgesOfAll(3, maxVertices)
	return []graph{
		graphOf(1, maxVertices),
		graphOf(3, maxVertices),
		graphOf(3, maxVertices, round...),
		graphOf(3, maxVertices, in...),
		graphOf(3, maxVertices, round[:maxEdges-1]...),
		graphOf(3, maxVertices, round[1:]...),
		graphOf(3, maxVertices, all[:maxEdges]...),
		graphOf(3, maxVertices, all[len(all)-maxEdges:]...),
		graphOf(3, maxVertices, all[60:60+maxEdges]...),
		graphOf(3, maxVertices-1, edgesOfAll(3, maxVertices-1)[:maxEdges]...),
		graphOf(2, 10, edgesOfAll(2, 10)[50:50+maxEdges]...),
		graphOf(1, 11, edgesOfAll(1, 11)[:maxEdges]...),
		graphOf(1, 11, edgesOfAll(1, 11)[1:]...),
		graphOf(1, maxVertices, edge(maxVertices-1, 1, maxVertices-1)),
		graphOf(3, maxVertices, edge(0, 3, maxVertices-1), edge(9, 3, 10), edge(10, 1, 9), edge(maxVertices-1, 2, 0)),
	}
}

// invalidGraphs returns graphs that are not valid, in each way and, as far as possible, in one way only.
func invalidGraphs() []graph {
	l := []graph{
		{},
		graphOf(2, 2, edge(1, 2, 0), edge(0, 1, 1)),
		graphOf(2, 2, edge(0, 2, 0), edge(0, 1, 1)),
		graphOf(2, 2, edge(0, 1, 1), edge(0, 1, 0)),
		graphOf(2, 2, edge(0, 1, 0), edge(0, 1, 1), edge(1, 1, 0), edge(0, 2, 0)),
		graphOf(1, 1, edge(0, 1, 0), edge(0, 1, 0)),
		graphOf(2, 2, edge(0, 1, 1), edge(0, 1, 1), edge(1, 2, 0)),
		graphOf(2, 2, edge(0, 1, 1), edge(1, 2, 0), edge(1, 2, 0)),
		graphOf(2, 3, edge(0, 1, 2), edge(0, 1, 1), edge(1, 1, 2), edge(0, 1, 2), edge(0, 1, 0)),
		graphOf(3, maxVertices, edgesOfAll(3, maxVertices)[:maxEdges+1]...),
		graphOf(1, 11, edgesOfAll(1, 11)...),
		graphOf(3, maxVertices, edgesOfAll(3, maxVertices)...),
		graphOf(2, 1, edge(0, 1, 1)),
		graphOf(2, 2, edge(0, 1, 1), edge(2, 2, 0)),
	}
	for _, n := range []int{math.MinInt, -1 << 32, -1, 0, 4, 5, 1<<32 + 1, math.MaxInt} {
		l = append(l, graphOf(n, 1), graphOf(n, 2, edge(0, 1, 1)))
	}
	for _, n := range []int{math.MinInt, -1 << 32, -1, 0, 41, 42, 1<<32 + 1, math.MaxInt} {
		l = append(l, graphOf(2, n), graphOf(2, n, edge(0, 1, 0)))
	}
	for _, n := range []int{math.MinInt, -2, -1, 2, 3, 40, 1 << 32, math.MaxInt} {
		l = append(l, graphOf(2, 2, edge(n, 1, 0)), graphOf(2, 2, edge(0, 1, n)), graphOf(2, 2, edge(n, 1, n)))
	}
	for _, n := range []int{math.MinInt, -math.MaxInt, -2, -1, 0, 3, 4, 1<<32 + 1, math.MaxInt} {
		l = append(l, graphOf(2, 2, edge(0, n, 1)), graphOf(2, 2, edge(1, n, 1)))
	}
	return append(l, graphOf(1, 2, edge(0, 2, 1)), graphOf(3, 2, edge(0, 4, 1)))
}

// sampleEdges returns edges that a graph of this rank and size may have, and such that it may not.
func sampleEdges(rank int, size int) []impl.Edge {
	l := []impl.Edge{
		edge(math.MinInt, 1, 0), edge(math.MaxInt, 1, 0), edge(0, 1, math.MinInt), edge(0, 1, math.MaxInt), edge(1<<32, 1, 1<<32),
		edge(0, math.MinInt, 0), edge(0, math.MaxInt, 0), edge(0, 1<<32+1, 0),
	}
	for from := -1; from <= size; from++ {
		for letter := -rank - 1; letter <= rank+1; letter++ {
			for to := -1; to <= size; to++ {
				l = append(l, edge(from, letter, to))
			}
		}
	}
	return l
}

func checkGraph(t *testing.T, got graph, ok bool, want graph, wantOk bool, call string, args ...any) {
	t.Helper()
	if !wantEqualGraphs(got, want) || ok != wantOk {
		t.Errorf("%s of %v = %v, %t, want %v, %t", call, args, got, ok, want, wantOk)
	}
}

func TestGraphLimits(t *testing.T) {
	if impl.MaxVertices != maxVertices || impl.MaxEdges != maxEdges {
		t.Errorf("MaxVertices = %d, MaxEdges = %d", impl.MaxVertices, impl.MaxEdges)
	}
}

func TestCompareEdges(t *testing.T) {
	numbers := []int{math.MinInt, -1, 0, 1, 2, 10, math.MaxInt}
	var edges []impl.Edge
	for _, from := range numbers {
		for _, letter := range numbers {
			for _, to := range numbers {
				edges = append(edges, edge(from, letter, to))
			}
		}
	}
	// The edges are in order, so that their places compare as they do.
	for i, a := range edges {
		for k, b := range edges {
			want := 0
			if i < k {
				want = -1
			} else if i > k {
				want = 1
			}
			if got := impl.CompareEdges(a, b); got != want {
				t.Errorf("CompareEdges(%v, %v) = %d, want %d", a, b, got, want)
			}
		}
	}
}

func TestNewGraph(t *testing.T) {
	for _, rank := range sampleRanks() {
		got, ok := impl.NewGraph(rank)
		if rank == 1 || rank == 2 || rank == 3 {
			checkGraph(t, got, ok, graphOf(rank, 1), true, "NewGraph", rank)
		} else {
			checkGraph(t, got, ok, graph{}, false, "NewGraph", rank)
		}
	}
}

func TestIsGraph(t *testing.T) {
	for _, g := range slices.Concat(smallGraphs(), limitGraphs()) {
		if !impl.IsGraph(g) {
			t.Errorf("IsGraph(%v) is false", g)
		}
	}
	for _, g := range invalidGraphs() {
		if impl.IsGraph(g) {
			t.Errorf("IsGraph(%v) is true", g)
		}
	}
}

// All lists of up to three edges of a box that is wider than the graph, in any order.
func TestIsGraphExactly(t *testing.T) {
	edges := slices.DeleteFunc(sampleEdges(1, 2), func(e impl.Edge) bool { return e.Letter < 0 && e.From != 0 })
	for _, a := range edges {
		for _, b := range edges {
			for _, l := range [][]impl.Edge{{a}, {a, b}, {edge(0, 1, 1), a}, {edge(0, 1, 0), a, b}, {a, b, edge(1, 1, 1)}} {
				if g := graphOf(1, 2, l...); impl.IsGraph(g) != wantIsGraph(g) {
					t.Errorf("IsGraph(%v) is %t", g, impl.IsGraph(g))
				}
			}
		}
	}
}

func checkAddEdge(t *testing.T, g graph, e impl.Edge) {
	t.Helper()
	got, ok := impl.AddEdge(g, e)
	want, wantOk := wantAddEdge(g, e)
	checkGraph(t, got, ok, want, wantOk, "AddEdge", g, e)
}

func TestAddEdge(t *testing.T) {
	for _, g := range append(smallGraphs(), allGraphs(3, 1)...) {
		for _, e := range sampleEdges(g.Rank, g.Size) {
			checkAddEdge(t, g, e)
		}
	}
}

func TestAddEdgeAtLimits(t *testing.T) {
	for _, g := range limitGraphs() {
		for _, e := range slices.Concat(g.Edges, edgesOfAll(g.Rank, 3), sampleEdges(1, 1)) {
			checkAddEdge(t, g, e)
		}
		for _, v := range []int{9, 10, 11, 38, 39, 40} {
			for _, u := range []int{0, 9, 10, 38, 39, 40, 41} {
				for letter := -1; letter <= 4; letter++ {
					checkAddEdge(t, g, edge(u, letter, v))
					checkAddEdge(t, g, edge(v, letter, u))
				}
			}
		}
	}
}

// The 120th edge is added, and no other one behind it.
func TestAddEdgeMost(t *testing.T) {
	all := edgesOfAll(2, 8)
	g := graphOf(2, 8)
	for i := range len(all) {
		// The step has no divisor in common with the number of edges, so that all of them come in some order.
		e := all[i*37%len(all)]
		larger, ok := impl.AddEdge(g, e)
		if ok != (i < maxEdges) || len(larger.Edges) != min(i+1, maxEdges) || !impl.IsGraph(larger) {
			t.Fatalf("AddEdge of edge number %d: %t, %d edges", i+1, ok, len(larger.Edges))
		}
		g = larger
	}
}

// The order in which edges are added does not matter.
func TestAddEdgeInAnyOrder(t *testing.T) {
	for _, want := range append(allGraphs(2, 2), limitGraphs()...) {
		forwards, backwards := graphOf(want.Rank, want.Size), graphOf(want.Rank, want.Size)
		for i := range want.Edges {
			var ok, alsoOk bool
			forwards, ok = impl.AddEdge(forwards, want.Edges[i])
			backwards, alsoOk = impl.AddEdge(backwards, want.Edges[len(want.Edges)-1-i])
			if !ok || !alsoOk {
				t.Fatalf("AddEdge of edge number %d of %v failed", i, want)
			}
		}
		checkGraph(t, forwards, true, want, true, "adding edges in order", want)
		checkGraph(t, backwards, true, want, true, "adding edges from the last to the first", want)
	}
}

func TestAddEdgeThereAlready(t *testing.T) {
	for _, g := range append(allGraphs(3, 1), limitGraphs()...) {
		for _, e := range g.Edges {
			got, ok := impl.AddEdge(g, e)
			checkGraph(t, got, ok, g, false, "AddEdge of an edge that is there already", g, e)
		}
	}
}

func TestAddVertex(t *testing.T) {
	for _, g := range slices.Concat(smallGraphs(), limitGraphs()) {
		got, ok := impl.AddVertex(g)
		if g.Size < maxVertices {
			checkGraph(t, got, ok, graphOf(g.Rank, g.Size+1, g.Edges...), true, "AddVertex", g)
		} else {
			checkGraph(t, got, ok, g, false, "AddVertex", g)
		}
	}
	g := graphOf(2, 1, edge(0, 2, 0))
	for n := 2; n <= 45; n++ {
		var ok bool
		g, ok = impl.AddVertex(g)
		checkGraph(t, g, ok, graphOf(2, min(n, maxVertices), edge(0, 2, 0)), n <= maxVertices, "AddVertex, again and again", n)
	}
}

// Some of these graphs would be valid with one vertex or edge more.
func TestInvalidGraphsStayUnchanged(t *testing.T) {
	for _, g := range invalidGraphs() {
		for _, e := range append(sampleEdges(2, 2), g.Edges...) {
			got, ok := impl.AddEdge(g, e)
			checkGraph(t, got, ok, g, false, "AddEdge", g, e)
		}
		got, ok := impl.AddVertex(g)
		checkGraph(t, got, ok, g, false, "AddVertex", g)
		if s := impl.FormatGraph(g); s != "" {
			t.Errorf("FormatGraph(%v) = %q", g, s)
		}
	}
}

func checkSteps(t *testing.T, g graph) {
	t.Helper()
	for _, v := range []int{math.MinInt, -1, 0, 1, 2, 3, 10, 38, 39, 40, math.MaxInt} {
		for _, letter := range []int{math.MinInt, -math.MaxInt, -4, -3, -2, -1, 0, 1, 2, 3, 4, 1<<32 + 1, math.MaxInt} {
			checkList(t, impl.StepsFrom(g, v, letter), wantSteps(g, v, letter), "StepsFrom", g, v, letter)
		}
		if got, want := impl.DegreeOf(g, v), wantDegree(g, v); got != want {
			t.Errorf("DegreeOf(%v, %d) = %d, want %d", g, v, got, want)
		}
	}
}

func TestStepsAndDegrees(t *testing.T) {
	for _, g := range slices.Concat(smallGraphs(), limitGraphs()) {
		checkSteps(t, g)
	}
}

// The chapter states no fixed result here, so that steps and degrees are those of the edges as they are listed.
func TestStepsAndDegreesOfInvalidGraphs(t *testing.T) {
	for _, g := range invalidGraphs() {
		checkSteps(t, g)
	}
}

func TestStepsFromExamples(t *testing.T) {
	for _, c := range []struct {
		g      graph
		v      int
		letter int
		want   []int
	}{
		{graphOf(2, 2, edge(0, 1, 1), edge(1, 2, 0)), 0, 1, []int{1}},
		{graphOf(2, 2, edge(0, 1, 1), edge(1, 2, 0)), 0, -1, nil},
		{graphOf(2, 2, edge(0, 1, 1), edge(1, 2, 0)), 0, 2, nil},
		{graphOf(2, 2, edge(0, 1, 1), edge(1, 2, 0)), 0, -2, []int{1}},
		{graphOf(2, 2, edge(0, 1, 1), edge(1, 2, 0)), 1, 1, nil},
		{graphOf(2, 2, edge(0, 1, 1), edge(1, 2, 0)), 1, -1, []int{0}},
		{graphOf(2, 2, edge(0, 1, 1), edge(1, 2, 0)), 1, 2, []int{0}},
		{graphOf(2, 2, edge(0, 1, 1), edge(1, 2, 0)), 1, -2, nil},
		{graphOf(2, 2, edge(0, 1, 1), edge(1, 2, 0)), 2, 1, nil},
		{graphOf(2, 2, edge(0, 1, 1), edge(1, 2, 0)), -1, 1, nil},
		{graphOf(2, 2, edge(0, 1, 1), edge(1, 2, 0)), 0, 0, nil},
		{graphOf(2, 2, edge(0, 1, 1), edge(1, 2, 0)), 0, 3, nil},
		{graphOf(2, 3, edge(0, 1, 0), edge(0, 1, 1), edge(0, 1, 2), edge(0, 2, 1)), 0, 1, []int{0, 1, 2}},
		{graphOf(2, 3, edge(0, 1, 2), edge(1, 1, 2), edge(2, 1, 2), edge(2, 2, 2)), 2, -1, []int{0, 1, 2}},
		{graphOf(2, 3, edge(0, 1, 1), edge(1, 1, 0), edge(1, 2, 2)), 0, -1, []int{1}},
		{graphOf(1, 12, edge(0, 1, 2), edge(0, 1, 10), edge(0, 1, 11)), 0, 1, []int{2, 10, 11}},
		{graphOf(1, 12, edge(2, 1, 0), edge(10, 1, 0), edge(11, 1, 0)), 0, -1, []int{2, 10, 11}},
		{graphOf(1, 1, edge(0, 1, 0)), 0, 1, []int{0}},
		{graphOf(1, 1, edge(0, 1, 0)), 0, -1, []int{0}},
		{graphOf(1, 1), 0, 1, nil},
		{graphOf(2, 3, edge(0, 1, 2), edge(0, 1, 1), edge(0, 1, 2), edge(0, 1, 0)), 0, 1, []int{0, 1, 2}},
		{graphOf(2, 3, edge(2, 1, 0), edge(1, 1, 0), edge(2, 1, 0)), 0, -1, []int{1, 2}},
	} {
		checkList(t, impl.StepsFrom(c.g, c.v, c.letter), c.want, "StepsFrom", c.g, c.v, c.letter)
	}
}

// A letter leads from u to v exactly if its inverse leads back, and each edge has two ends.
func TestStepsLeadBack(t *testing.T) {
	for _, g := range append(allGraphs(2, 2), limitGraphs()...) {
		ends := 0
		for u := range g.Size {
			ends += impl.DegreeOf(g, u)
			for letter := 1; letter <= g.Rank; letter++ {
				for _, v := range impl.StepsFrom(g, u, letter) {
					if !slices.Contains(impl.StepsFrom(g, v, -letter), u) {
						t.Errorf("the letter %d leads from %d to %d in %v, but not back", letter, u, v, g)
					}
				}
			}
		}
		if ends != 2*len(g.Edges) {
			t.Errorf("%v has %d ends of edges", g, ends)
		}
	}
}

// The edge case of this chapter, with two letters: both loops count, and in any order they are the same graph.
func TestTwoLoops(t *testing.T) {
	for _, c := range []struct {
		rank   int
		size   int
		loops  []impl.Edge
		vertex int
		text   string
	}{
		{2, 1, []impl.Edge{edge(0, 1, 0), edge(0, 2, 0)}, 0, "2 1 0a0 0b0"},
		{3, 1, []impl.Edge{edge(0, 2, 0), edge(0, 3, 0)}, 0, "3 1 0b0 0c0"},
		{3, 2, []impl.Edge{edge(1, 1, 1), edge(1, 3, 1)}, 1, "3 2 1a1 1c1"},
		{2, maxVertices, []impl.Edge{edge(39, 1, 39), edge(39, 2, 39)}, 39, "2 40 39a39 39b39"},
	} {
		want := graphOf(c.rank, c.size, c.loops...)
		for _, order := range [][]int{{0, 1}, {1, 0}} {
			g := graphOf(c.rank, c.size)
			for _, i := range order {
				var ok bool
				g, ok = impl.AddEdge(g, c.loops[i])
				if !ok {
					t.Errorf("AddEdge of the loop %v failed", c.loops[i])
				}
			}
			checkGraph(t, g, impl.IsGraph(g), want, true, "two loops", c.loops, order)
		}
		if got := impl.DegreeOf(want, c.vertex); got != 4 {
			t.Errorf("DegreeOf(%v, %d) = %d", want, c.vertex, got)
		}
		for _, e := range c.loops {
			checkList(t, impl.StepsFrom(want, c.vertex, e.Letter), []int{c.vertex}, "StepsFrom", want, e.Letter)
			checkList(t, impl.StepsFrom(want, c.vertex, -e.Letter), []int{c.vertex}, "StepsFrom", want, -e.Letter)
		}
		if got := impl.FormatGraph(want); got != c.text {
			t.Errorf("FormatGraph(%v) = %q", want, got)
		}
		g, ok := impl.ParseGraph(c.text)
		checkGraph(t, g, ok, want, true, "ParseGraph", c.text)
	}
}

// The edge case of this chapter, with one letter: the second loop is the edge that is there already.
func TestTwoLoopsWithOneLetter(t *testing.T) {
	for _, c := range []struct {
		g    graph
		e    impl.Edge
		text string
	}{
		{graphOf(1, 1, edge(0, 1, 0)), edge(0, 1, 0), "1 1 0a0 0a0"},
		{graphOf(2, 1, edge(0, 2, 0)), edge(0, 2, 0), "2 1 0b0 0b0"},
		{graphOf(2, 2, edge(1, 2, 1)), edge(1, 2, 1), "2 2 1b1 1b1"},
	} {
		v := c.e.From
		got, ok := impl.AddEdge(c.g, c.e)
		checkGraph(t, got, ok, c.g, false, "AddEdge", c.g, c.e)
		if n := impl.DegreeOf(c.g, v); n != 2 {
			t.Errorf("DegreeOf(%v, %d) = %d", c.g, v, n)
		}
		twice := graphOf(c.g.Rank, c.g.Size, c.e, c.e)
		if impl.IsGraph(twice) || impl.FormatGraph(twice) != "" || impl.EqualGraphs(c.g, twice) {
			t.Errorf("%v is taken for a graph", twice)
		}
		checkList(t, impl.StepsFrom(twice, v, c.e.Letter), []int{v}, "StepsFrom", twice)
		checkList(t, impl.StepsFrom(twice, v, -c.e.Letter), []int{v}, "StepsFrom", twice)
		got, ok = impl.ParseGraph(c.text)
		checkGraph(t, got, ok, graph{}, false, "ParseGraph", c.text)
	}
}

func TestFormatGraph(t *testing.T) {
	for _, g := range slices.Concat(smallGraphs(), limitGraphs(), invalidGraphs()) {
		if got, want := impl.FormatGraph(g), wantFormatGraph(g); got != want {
			t.Errorf("FormatGraph(%v) = %q, want %q", g, got, want)
		}
	}
}

func TestGraphFormatExamples(t *testing.T) {
	for s, g := range map[string]graph{
		"1 1":                          graphOf(1, 1),
		"3 40":                         graphOf(3, 40),
		"2 2 0a1 1b0":                  graphOf(2, 2, edge(0, 1, 1), edge(1, 2, 0)),
		"2 1 0a0 0b0":                  graphOf(2, 1, edge(0, 1, 0), edge(0, 2, 0)),
		"3 1 0c0":                      graphOf(3, 1, edge(0, 3, 0)),
		"2 12 2b10 10a2":               graphOf(2, 12, edge(2, 2, 10), edge(10, 1, 2)),
		"1 12 0a2 0a10 2a0 10a0 11a11": graphOf(1, 12, edge(0, 1, 2), edge(0, 1, 10), edge(2, 1, 0), edge(10, 1, 0), edge(11, 1, 11)),
		"3 40 0c39 39a0 39b39":         graphOf(3, 40, edge(0, 3, 39), edge(39, 1, 0), edge(39, 2, 39)),
	} {
		if got := impl.FormatGraph(g); got != s {
			t.Errorf("FormatGraph(%v) = %q, want %q", g, got, s)
		}
		got, ok := impl.ParseGraph(s)
		checkGraph(t, got, ok, g, true, "ParseGraph", s)
	}
}

func TestGraphFormatsInverse(t *testing.T) {
	for _, g := range slices.Concat(smallGraphs(), allGraphs(3, 2), limitGraphs()) {
		s := impl.FormatGraph(g)
		if s == "" {
			t.Errorf("FormatGraph(%v) is empty", g)
		}
		got, ok := impl.ParseGraph(s)
		checkGraph(t, got, ok, g, true, "ParseGraph", s)
	}
}

func checkParseGraph(t *testing.T, s string) {
	t.Helper()
	got, ok := impl.ParseGraph(s)
	want, wantOk := wantParseGraph(s)
	checkGraph(t, got, ok, want, wantOk, "ParseGraph", s)
	if ok && impl.FormatGraph(got) != s {
		t.Errorf("FormatGraph of ParseGraph(%q) = %q", s, impl.FormatGraph(got))
	}
}

func TestParseGraphAllShort(t *testing.T) {
	for _, s := range stringsOver(everyByte(), 2) {
		checkParseGraph(t, s)
	}
	for _, s := range stringsOver("0123 abA-", 5) {
		checkParseGraph(t, s)
	}
	for _, s := range stringsOver("012 ab", 5) {
		checkParseGraph(t, "2 2 "+s)
		checkParseGraph(t, "2 2 0a1"+s)
	}
}

// textsNextTo returns all texts from which s differs in a single place: by one byte that is another one, is missing or is added.
func textsNextTo(s string) []string {
	var l []string
	for i := range len(s) + 1 {
		for b := range 256 {
			l = append(l, s[:i]+string([]byte{byte(b)})+s[i:])
			if i < len(s) {
				l = append(l, s[:i]+string([]byte{byte(b)})+s[i+1:])
			}
		}
		if i < len(s) {
			l = append(l, s[:i]+s[i+1:])
		}
	}
	return l
}

func TestParseGraphNextToFormats(t *testing.T) {
	for _, s := range []string{
		"1 1", "3 40", "2 2 0a1 1b0", "2 1 0a0 0b0", "3 3 0a1 0a2 0b0 0c1 1a1 2c0", "2 12 2b10 10a2", "1 40 9a39 10a0 39a39", "3 11 0a10 1b9 10c10",
	} {
		for _, next := range textsNextTo(s) {
			checkParseGraph(t, next)
		}
	}
	for _, g := range allGraphs(2, 2) {
		s := wantFormatGraph(g)
		for i := range s {
			checkParseGraph(t, s[:i])
			checkParseGraph(t, s[i:])
			for _, b := range []string{"0", "1", "2", "a", "b", "c", " "} {
				checkParseGraph(t, s[:i]+b+s[i+1:])
			}
		}
	}
}

func TestParseGraphInvalid(t *testing.T) {
	for _, s := range []string{
		"", " ", "  ", "2", "2 ", " 2", "a", "0a0", "0 1", "2 0", "4 1", "-1 1", "2 -1", "2 41", "2 400", "10 1", "01 1", "2 01", "+2 1", "2 +1",
		" 2 1", "2  1", "2 1 ", "2\t1", "2 1\n", "\n2 1", "2 1\x00", "2,1", "2 1 0c0", "1 1 0b0", "3 1 0d0", "2 1 0A0", "2 2 1A0", "2 1 0a1", "2 1 1a0",
		"2 40 0a40", "2 40 40a0", "2 2 0a-1", "2 2 -1a0", "2 2 -0a1", "2 2 0a01", "2 2 00a1", "2 2 0a+1", "2 2 0a", "2 2 a1", "2 2 a", "2 2 01", "2 2 1",
		"2 2 0aa1", "2 2 0ab1", "2 2 0a1a", "2 2 0 a1", "2 2 0a 1", "2 2 0a1  1b0", "2 2 0a1 1b0 ", "2 2 0a1,1b0", "2 2 0a11b0", "2 2 0a1\n1b0",
		"2 2 1b0 0a1", "2 2 0b0 0a1", "2 2 0a1 0a0", "2 2 0a1 0a1", "2 1 0a0 0a0", "2 2 0a1 1b0 1b0", "2 2 0a1 2", "2 2 2", "2 2 none", "2 2 0á1", "2 2 0\xff1", "２ 1",
		"2 12 10a2 2b10", "1 12 0a10 0a2", "9999999999 1", "2 9999999999", "2 18446744073709551617", "18446744073709551618 1", "2 2 0a18446744073709551617",
		strings.Repeat("1", 10000), strings.Repeat(" ", 10000), "1 1" + strings.Repeat(" 0a0", 10000), "1 11" + strings.Repeat(" ", 121),
	} {
		got, ok := impl.ParseGraph(s)
		checkGraph(t, got, ok, graph{}, false, "ParseGraph", s)
	}
}

// 120 edges are read, and 121 are not, though all of them are in order.
func TestParseGraphMostEdges(t *testing.T) {
	for _, n := range []int{118, 119, 120, 121, 122, 200} {
		s := "2 10"
		for _, e := range edgesOfAll(2, 10)[:n] {
			s += " " + strconv.Itoa(e.From) + []string{"a", "b"}[e.Letter-1] + strconv.Itoa(e.To)
		}
		checkParseGraph(t, s)
		if _, ok := impl.ParseGraph(s); ok != (n <= maxEdges) {
			t.Errorf("ParseGraph of %d edges is %t", n, ok)
		}
	}
}

// differentGraphs returns graphs no two of which are equal, invalid ones among them.
func differentGraphs() []graph {
	return append(invalidGraphs(),
		graphOf(1, 1), graphOf(2, 1), graphOf(1, 2), graphOf(2, 2),
		graphOf(2, 2, edge(0, 1, 1)), graphOf(2, 2, edge(0, 2, 1)), graphOf(2, 2, edge(1, 1, 1)), graphOf(2, 2, edge(0, 1, 0)),
		graphOf(2, 2, edge(0, 1, 1), edge(1, 2, 0)), graphOf(3, 2, edge(0, 1, 1), edge(1, 2, 0)), graphOf(2, 3, edge(0, 1, 1), edge(1, 2, 0)),
		graphOf(2, 2, edge(0, 1, 1), edge(1, 2, 1)), graphOf(2, 2, edge(0, 1, 1), edge(1, 1, 0)),
		graphOf(0, 0, edge(0, 0, 0)), graphOf(0, 0, edge(0, 0, 0), edge(0, 0, 0)),
	)
}

func TestEqualGraphs(t *testing.T) {
	l := differentGraphs()
	for i, a := range l {
		for k, b := range l {
			b.Edges = slices.Clone(b.Edges)
			if got := impl.EqualGraphs(a, b); got != (i == k) {
				t.Errorf("EqualGraphs(%v, %v) = %t", a, b, got)
			}
		}
	}
	nothing, empty := graph{Rank: 2, Size: 1}, graph{Rank: 2, Size: 1, Edges: []impl.Edge{}}
	if !impl.EqualGraphs(nothing, empty) || !impl.EqualGraphs(empty, nothing) {
		t.Error("EqualGraphs tells no edges from an empty list")
	}
}

// Graphs with no edges are treated alike, whether the list is nil or empty.
func TestEmptyLists(t *testing.T) {
	for _, edges := range [][]impl.Edge{nil, {}} {
		g := graph{Rank: 2, Size: 1, Edges: edges}
		if !impl.IsGraph(g) || impl.FormatGraph(g) != "2 1" || impl.DegreeOf(g, 0) != 0 || len(impl.StepsFrom(g, 0, 1)) != 0 {
			t.Errorf("%v is not taken for the graph without edges", g)
		}
		got, ok := impl.AddEdge(g, edge(0, 1, 0))
		checkGraph(t, got, ok, graphOf(2, 1, edge(0, 1, 0)), true, "AddEdge", g)
		got, ok = impl.AddVertex(g)
		checkGraph(t, got, ok, graphOf(2, 2), true, "AddVertex", g)
	}
}

// Steps and degrees are those of any list of edges, also of one for which comparing all of them would take too long.
func TestStepsInLongLists(t *testing.T) {
	const n = 100000
	edges := make([]impl.Edge, 0, n)
	for i := range n {
		edges = append(edges, edge(0, 1, n-i))
	}
	g := graphOf(2, 2, edges...)
	if steps := impl.StepsFrom(g, 0, 1); len(steps) != n || !slices.IsSorted(steps) || steps[0] != 1 {
		t.Errorf("StepsFrom has %d vertices", len(steps))
	}
	if got := impl.DegreeOf(g, 0); got != n {
		t.Errorf("DegreeOf = %d", got)
	}
	got, ok := impl.AddEdge(g, edge(0, 1, 1))
	if ok || len(got.Edges) != n || impl.IsGraph(g) {
		t.Errorf("AddEdge = %d edges, %t", len(got.Edges), ok)
	}
}

// graphWithRoom returns a copy of g whose edges have unused capacity, and the whole of its memory.
func graphWithRoom(g graph) (graph, []impl.Edge) {
	memory := append(slices.Clone(g.Edges), edge(77, 77, 77), edge(78, 78, 78), edge(79, 79, 79))
	return graph{Rank: g.Rank, Size: g.Size, Edges: memory[:len(g.Edges)]}, memory
}

// overwrittenGraph fills the edges of a graph and their unused capacity.
func overwrittenGraph(g graph) {
	edges := g.Edges[:cap(g.Edges)]
	for i := range edges {
		edges[i] = edge(55, 55, 55)
	}
}

// Arguments keep their edges and unused capacity, and a change to a result changes no argument and no later result.
func TestGraphsShareNoMemory(t *testing.T) {
	graphs := append(invalidGraphs(), limitGraphs()...)
	graphs = append(graphs, allGraphs(2, 2)...)
	for _, original := range graphs {
		g, memory := graphWithRoom(original)
		wantMemory := slices.Clone(memory)
		calls := []func() graph{
			func() graph { h, _ := impl.AddEdge(g, edge(0, 1, 0)); return h },
			func() graph { h, _ := impl.AddEdge(g, edge(1, 2, 1)); return h },
			func() graph { h, _ := impl.AddEdge(g, edge(0, -1, 0)); return h },
			func() graph { h, _ := impl.AddVertex(g); return h },
			func() graph { h, _ := impl.ParseGraph("2 2 0a1 1b0"); return h },
			func() graph { h, _ := impl.NewGraph(2); return h },
		}
		for i, call := range calls {
			got := call()
			want := got
			want.Edges = slices.Clone(got.Edges)
			overwrittenGraph(got)
			checkGraph(t, call(), true, want, true, "the same call again", i, original)
		}
		steps := impl.StepsFrom(g, 0, 1)
		want := slices.Clone(steps)
		overwritten(steps)
		checkList(t, impl.StepsFrom(g, 0, 1), want, "StepsFrom again", original)
		impl.IsGraph(g)
		impl.DegreeOf(g, 0)
		impl.FormatGraph(g)
		impl.EqualGraphs(g, g)
		if !slices.Equal(memory, wantMemory) {
			t.Errorf("the edges of %v have changed to %v", original, memory)
		}
	}
}
