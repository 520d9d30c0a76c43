package tests

import (
	"fmt"
	"math"
	"math/rand/v2"
	"slices"
	"strings"
	"sync"
	"testing"

	"loop.example/g02075/impl"
)

// Promise 6, as far as chapter 12 goes: every word lies in exactly one coset, which CosetOf names.
// The wanted results are computed here in the plainest way: one step after the other, from the first shortest words, and for known subgroups without any graph.

func lettersOf(rank int) []int {
	return []int{1, -1, 2, -2, 3, -3}[:2*rank]
}

func wantMissing(g graph) []impl.Edge {
	if !wantIsFolded(g) {
		return nil
	}
	var missing []impl.Edge
	for v := range g.Size {
		for _, letter := range lettersOf(g.Rank) {
			if wantNext(g, v, letter) == -1 {
				missing = append(missing, edge(v, letter, -1))
			}
		}
	}
	return missing
}

// wantIndex expects as many edges as there would be with each letter from each vertex.
func wantIndex(g graph) int {
	if !wantIsCore(g) || len(g.Edges) != g.Rank*g.Size {
		return -1
	}
	return g.Size
}

func wantTransversal(g graph) [][]int {
	if !wantIsCore(g) {
		return nil
	}
	return wantTreeWords(g)
}

func wantTable(g graph) [][]int {
	if wantIndex(g) == -1 {
		return nil
	}
	var table [][]int
	for v := range g.Size {
		var row []int
		for _, letter := range lettersOf(g.Rank) {
			row = append(row, wantNext(g, v, letter))
		}
		table = append(table, row)
	}
	return table
}

// wantCoset takes the words of the vertices of a core.
func wantCoset(g graph, transversal [][]int, w []int) []int {
	w = wantReduced(w)
	at := 0
	for i, letter := range w {
		next := wantNext(g, at, letter)
		if next == -1 {
			return slices.Concat(transversal[at], w[i:])
		}
		at = next
	}
	return transversal[at]
}

// wantSame expects a core.
func wantSame(g graph, a []int, b []int) bool {
	at := 0
	for _, letter := range wantProduct(a, wantInvert(b)) {
		at = wantNext(g, at, letter)
		if at == -1 {
			return false
		}
	}
	return at == 0
}

func checkIndex(t *testing.T, g graph) {
	t.Helper()
	checkEdges(t, impl.MissingSteps(g), wantMissing(g), "MissingSteps", g)
	index := wantIndex(g)
	if got := impl.IndexOf(g); got != index {
		t.Errorf("IndexOf(%v) = %d, want %d", g, got, index)
	}
	if got := impl.IsFiniteIndex(g); got != (index != -1) {
		t.Errorf("IsFiniteIndex(%v) = %t", g, got)
	}
	checkWords(t, impl.TransversalOf(g), wantTransversal(g), "TransversalOf", g)
	checkWords(t, impl.CosetTable(g), wantTable(g), "CosetTable", g)
}

func checkCoset(t *testing.T, g graph, w []int, want []int) {
	t.Helper()
	if got, ok := impl.CosetOf(g, w); !ok || !slices.Equal(got, want) {
		t.Errorf("CosetOf(%v, %v) = %v, %t, want %v", g, w, got, ok, want)
	}
}

func checkSame(t *testing.T, g graph, a []int, b []int, want bool) {
	t.Helper()
	if got := impl.SameCoset(g, a, b); got != want {
		t.Errorf("SameCoset(%v, %v, %v) = %t", g, a, b, got)
	}
}

// checkNoCosets expects the fixed results of the functions that need a core.
func checkNoCosets(t *testing.T, g graph) {
	t.Helper()
	if n := impl.IndexOf(g); n != -1 || impl.IsFiniteIndex(g) {
		t.Errorf("IndexOf with rank %d, %d vertices, %d edges is %d, finite: %t", g.Rank, g.Size, len(g.Edges), n, impl.IsFiniteIndex(g))
	}
	checkWords(t, impl.TransversalOf(g), nil, "TransversalOf", g.Rank, g.Size, len(g.Edges))
	checkWords(t, impl.CosetTable(g), nil, "CosetTable", g.Rank, g.Size, len(g.Edges))
	for _, w := range [][]int{nil, {}, {1}, {-1}, {2}, {1, -1}, {1, 2, 1}, {3}, {0}, {math.MinInt}, {math.MaxInt}} {
		if got, ok := impl.CosetOf(g, w); ok || len(got) != 0 {
			t.Errorf("CosetOf with rank %d, %d vertices, %d edges and the word %v is %v, %t", g.Rank, g.Size, len(g.Edges), w, got, ok)
		}
		for _, v := range [][]int{nil, {1}, w} {
			if impl.SameCoset(g, v, w) {
				t.Errorf("SameCoset with rank %d, %d vertices, %d edges and the words %v and %v is true", g.Rank, g.Size, len(g.Edges), v, w)
			}
		}
	}
}

// randomCovers returns cores of finite index of all ranks, many of them large: the parts that are connected with the base where each letter permutes the vertices.
func randomCovers(n int) []graph {
	r := rand.New(rand.NewPCG(12, 1))
	var l []graph
	for i := range n {
		g := graphOf(1+i%3, 1+i%maxVertices)
		for letter := 1; letter <= g.Rank; letter++ {
			for from, to := range r.Perm(g.Size) {
				g.Edges = append(g.Edges, edge(from, letter, to))
			}
		}
		slices.SortFunc(g.Edges, wantCompareEdges)
		l = append(l, wantCoreGraph(g))
	}
	return l
}

// coresForCosets returns cores of finite and of infinite index, some of them with many vertices.
func coresForCosets() []graph {
	return slices.Concat(smallCores(1, 3), everyNth(smallCores(2, 3), 3), everyNth(smallCores(3, 2), 7), everyNth(largeCores(), 3), randomCovers(24))
}

// wordsForCosets returns words of a rank and other lists of letters, without 0 and the least int.
func wordsForCosets(r *rand.Rand, g graph) [][]int {
	l := slices.Concat(reducedWords(g.Rank, 2), everyNth(reducedWords(g.Rank, 4), 17), wordsOf(r, wantBasis(g), 2), [][]int{{4}, {-4}, {1, 9}, {1, -9, 2}, {math.MaxInt}, {-math.MaxInt, 1}})
	for _, w := range everyNth(l, 5) {
		l = append(l, blown(r, 3, w))
	}
	return l
}

func TestIndices(t *testing.T) {
	finite := 0
	for _, g := range slices.Concat(coresToTest(), allFoldedGraphs(), randomCovers(100)) {
		checkIndex(t, g)
		if impl.IsFiniteIndex(g) {
			finite++
		}
	}
	if finite < 100 {
		t.Errorf("only %d graphs have finite index", finite)
	}
}

func TestIndexExamples(t *testing.T) {
	for _, c := range []struct {
		g           string
		missing     string
		transversal string
		table       string
	}{
		// Finite index.
		{"1 1 0a0", "", "1", "0 0"}, {"1 2 0a1 1a0", "", "1,a", "1 1,0 0"}, {"1 3 0a1 1a2 2a0", "", "1,a,A", "1 2,2 0,0 1"}, {"1 4 0a1 1a3 2a0 3a2", "", "1,a,A,aa", "1 2,3 0,0 3,2 1"},
		{"2 2 0a1 0b0 1a0 1b1", "", "1,a", "1 1 0 0,0 0 1 1"}, {"2 2 0a1 0b1 1a0 1b0", "", "1,a", "1 1 1 1,0 0 0 0"}, {"2 2 0a0 0b1 1a1 1b0", "", "1,b", "0 0 1 1,1 1 0 0"},
		{"2 3 0a1 0b0 1a2 1b2 2a0 2b1", "", "1,a,A", "1 2 0 0,2 0 2 2,0 1 1 1"}, {"2 4 0a1 0b2 1a0 1b3 2a3 2b0 3a2 3b1", "", "1,a,b,ab", "1 1 2 2,0 0 3 3,3 3 0 0,2 2 1 1"},
		{"3 2 0a1 0b0 0c0 1a0 1b1 1c1", "", "1,a", "1 1 0 0 0 0,0 0 1 1 1 1"}, {"3 2 0a0 0b0 0c1 1a1 1b1 1c0", "", "1,c", "0 0 0 0 1 1,1 1 1 1 0 0"},
		// Infinite index.
		{"1 1", "0a 0A", "1", ""}, {"2 1", "0a 0A 0b 0B", "1", ""}, {"3 1", "0a 0A 0b 0B 0c 0C", "1", ""}, {"2 1 0a0", "0b 0B", "1", ""}, {"2 1 0b0", "0a 0A", "1", ""}, {"3 1 0a0 0c0", "0b 0B", "1", ""},
		{"2 2 0a1 1b0", "0A 0b 1a 1B", "1,a", ""}, {"2 2 0a1 0b1 1b0", "0A 1a", "1,a", ""}, {"2 2 0a1 1b1", "0A 0b 0B 1a", "1,a", ""}, {"2 3 0a1 1b2 2a0", "0b 0B 1a 1B 2A 2b", "1,a,A", ""}, {"3 2 0c1 1b0", "0a 0A 0b 0C 1a 1A 1B 1c", "1,B", ""},
		{"2 2 0a1 0b0 1a0", "1b 1B", "1,a", ""}, {"2 2 0a0 0b1 1b0", "1a 1A", "1,b", ""}, {"2 3 0a1 0b0 1a2 1b2 2a0", "1B 2b", "1,a,A", ""},
		// Folded graphs that are no cores, with and without missing steps.
		{"2 2 0a1", "0A 0b 0B 1a 1b 1B", "", ""}, {"2 2", "0a 0A 0b 0B 1a 1A 1b 1B", "", ""}, {"1 2 0a0 1a1", "", "", ""}, {"1 2 0a0", "1a 1A", "", ""}, {"1 3 0a2 1a0 2a1", "", "", ""}, {"2 2 0a0 0b0 1a1 1b1", "", "", ""}, {"2 3 0a2 1a0 2b1", "0b 0B 1A 1b 2a 2B", "", ""}, {"2 2 0a0 0b1", "0B 1a 1A 1b", "", ""},
		// Graphs that are not folded.
		{"1 2 0a0 0a1", "", "", ""}, {"1 2 0a0 1a0", "", "", ""}, {"2 2 0a0 0a1 1a0", "", "", ""}, {"2 3 0b1 0b2 1a1", "", "", ""}, {"1 2 0a0 0a1 1a0 1a1", "", "", ""},
	} {
		g := drawn(c.g)
		var missing []impl.Edge
		for _, s := range strings.Fields(c.missing) {
			missing = append(missing, edge(int(s[0]-'0'), word(s[1:])[0], -1))
		}
		checkEdges(t, impl.MissingSteps(g), missing, "MissingSteps", c.g)
		var transversal, table [][]int
		if c.transversal != "" {
			transversal = words(c.transversal)
		}
		index := -1
		if c.table != "" {
			for _, s := range strings.Split(c.table, ",") {
				table = append(table, namesIn(s))
			}
			index = g.Size
		}
		checkWords(t, impl.TransversalOf(g), transversal, "TransversalOf", c.g)
		checkWords(t, impl.CosetTable(g), table, "CosetTable", c.g)
		if got := impl.IndexOf(g); got != index || impl.IsFiniteIndex(g) != (index != -1) {
			t.Errorf("IndexOf(%s) = %d, finite: %t, want %d", c.g, got, impl.IsFiniteIndex(g), index)
		}
	}
}

// The edge case of this chapter: the whole group has one coset.
func TestIndexOfTheWholeGroup(t *testing.T) {
	for rank := 1; rank <= 3; rank++ {
		g, ok := impl.WholeGroup(rank)
		checkGraph(t, g, ok, wantWhole(rank), true, "WholeGroup", rank)
		if n := impl.IndexOf(g); n != 1 || g.Size != 1 || !impl.IsFiniteIndex(g) {
			t.Errorf("IndexOf the whole group of rank %d is %d, finite: %t", rank, n, impl.IsFiniteIndex(g))
		}
		checkEdges(t, impl.MissingSteps(g), nil, "MissingSteps", g)
		checkWords(t, impl.TransversalOf(g), [][]int{nil}, "TransversalOf", g)
		checkWords(t, impl.CosetTable(g), [][]int{make([]int, 2*rank)}, "CosetTable", g)
		all := slices.Concat(reducedWords(rank, 2), [][]int{{1, -1}, {1, 1, -1, -1, -1}, longWord(200)[:100*(rank-1)]})
		for _, v := range all {
			checkCoset(t, g, v, nil)
			for _, w := range all {
				checkSame(t, g, v, w, true)
			}
		}
		// Letters that the rank does not have lie outside of it.
		for _, letter := range strangeLetters(rank) {
			checkCoset(t, g, []int{1, letter, 1}, []int{letter, 1})
			checkSame(t, g, []int{letter}, nil, false)
		}
	}
}

// Each word is its own coset of the trivial subgroup.
func TestCosetsOfTheTrivialSubgroup(t *testing.T) {
	for rank := 1; rank <= 3; rank++ {
		g, _ := impl.TrivialSubgroup(rank)
		var missing []impl.Edge
		for _, letter := range lettersOf(rank) {
			missing = append(missing, edge(0, letter, -1))
		}
		checkEdges(t, impl.MissingSteps(g), missing, "MissingSteps", g)
		if n := impl.IndexOf(g); n != -1 || impl.IsFiniteIndex(g) {
			t.Errorf("IndexOf the trivial subgroup of rank %d is %d, finite: %t", rank, n, impl.IsFiniteIndex(g))
		}
		checkWords(t, impl.TransversalOf(g), [][]int{nil}, "TransversalOf", g)
		checkWords(t, impl.CosetTable(g), nil, "CosetTable", g)
		all := reducedWords(rank, 3)
		for i, v := range all {
			checkCoset(t, g, v, v)
			checkCoset(t, g, slices.Concat([]int{1, -1}, v, []int{2, -2}), v)
			for k, w := range everyNth(all, 5) {
				checkSame(t, g, v, w, i == 5*k)
			}
		}
	}
}

// The index of a core is finite exactly where nothing is missing; each edge that is not there leaves two steps missing.
func TestIndexAndMissingSteps(t *testing.T) {
	for _, g := range coresToTest() {
		missing := impl.MissingSteps(g)
		want := -1
		if len(missing) == 0 {
			want = g.Size
		}
		if n := impl.IndexOf(g); n != want {
			t.Errorf("IndexOf(%v) = %d, but the steps %v are missing", g, n, missing)
		}
		if len(missing) != 2*(g.Rank*g.Size-len(g.Edges)) {
			t.Errorf("MissingSteps(%v) = %v", g, missing)
		}
		for i, m := range missing {
			if impl.NextVertex(g, m.From, m.Letter) != -1 || m.To != -1 || !isThere(g, m.From) || !slices.Contains(lettersOf(g.Rank), m.Letter) {
				t.Errorf("MissingSteps(%v) has %v", g, m)
			}
			if i > 0 && (m.From < missing[i-1].From || m.From == missing[i-1].From && impl.CompareWords([]int{missing[i-1].Letter}, []int{m.Letter}) != -1) {
				t.Errorf("MissingSteps(%v) = %v is not in order", g, missing)
			}
		}
	}
}

// For finite index, the rank is that of Schreier.
func TestRankAndIndex(t *testing.T) {
	for _, g := range randomCovers(120) {
		if n := impl.IndexOf(g); n < 1 || impl.RankOf(g) != n*(g.Rank-1)+1 {
			t.Errorf("%v has the index %d and the rank %d", g, n, impl.RankOf(g))
		}
	}
}

// There is one core for each subgroup, so that the cores of an index are as many as the formula of Hall says.
func TestNumbersOfCoresOfAnIndex(t *testing.T) {
	for _, c := range []struct {
		rank int
		want []int
	}{
		{1, []int{1, 1, 1, 1}}, {2, []int{1, 3, 13}}, {3, []int{1, 7}},
	} {
		got := make([]int, len(c.want))
		for _, g := range smallCores(c.rank, len(c.want)) {
			if n := impl.IndexOf(g); n > 0 {
				got[n-1]++
			}
		}
		checkList(t, got, c.want, "numbers of cores of an index", c.rank)
	}
}

func TestGraphsThatAreNoCoresHaveNoIndex(t *testing.T) {
	for _, g := range noCores() {
		checkNoCosets(t, g)
		if wantIsFolded(g) {
			checkIndex(t, g)
		}
	}
	// With as many edges as there can be, but not connected, or with the vertices in another order.
	for _, s := range []string{"1 2 0a0 1a1", "1 3 0a2 1a0 2a1", "2 2 0a0 0b0 1a1 1b1", "2 3 0a2 0b0 1a0 1b2 2a1 2b1"} {
		checkNoCosets(t, drawn(s))
		checkEdges(t, impl.MissingSteps(drawn(s)), nil, "MissingSteps", s)
	}
}

func TestMissingStepsOfGraphsThatAreNotFolded(t *testing.T) {
	for _, g := range slices.Concat(unfoldedGraphs(), invalidToFold(), slices.DeleteFunc(slices.Concat(smallGraphs(), randomGraphs(50)), wantIsFolded)) {
		checkEdges(t, impl.MissingSteps(g), nil, "MissingSteps", g.Rank, g.Size, len(g.Edges))
	}
	for _, g := range everyNth(slices.DeleteFunc(smallGraphs(), wantIsFolded), 9) {
		checkNoCosets(t, g)
	}
}

func TestCosetOf(t *testing.T) {
	r := rand.New(rand.NewPCG(12, 2))
	for _, g := range coresToTest() {
		transversal := wantTransversal(g)
		for _, w := range slices.Concat(everyNth(reducedWords(g.Rank, 4), 19), wordsOf(r, wantBasis(g), 2), everyNth(listsToTest(), 29)) {
			checkCoset(t, g, w, wantCoset(g, transversal, w))
			checkCoset(t, g, blown(r, 3, w), wantCoset(g, transversal, w))
		}
	}
	for _, g := range coresForCosets() {
		transversal := wantTransversal(g)
		for _, w := range everyNth(listsToTest(), 3) {
			checkCoset(t, g, w, wantCoset(g, transversal, w))
		}
	}
}

func TestCosetExamples(t *testing.T) {
	for _, c := range []struct {
		g    string
		w    string
		want string
	}{
		// All of the word can be read.
		{"2 2 0a1 0b0 1a0 1b1", "bab", "a"}, {"2 2 0a1 0b0 1a0 1b1", "1", "1"}, {"2 2 0a1 0b0 1a0 1b1", "A", "a"}, {"2 2 0a1 0b0 1a0 1b1", "aba", "1"}, {"2 2 0a1 0b0 1a0 1b1", "abAbaB", "a"}, {"2 2 0a1 1b0", "aba", "a"}, {"2 2 0a1 1b0", "BAB", "a"}, {"2 2 0a1 1b0", "abab", "1"}, {"1 3 0a1 1a2 2a0", "aa", "A"}, {"1 3 0a1 1a2 2a0", "aaaaa", "A"}, {"1 3 0a1 1a2 2a0", "AA", "a"}, {"1 4 0a1 1a3 2a0 3a2", "AA", "aa"}, {"2 3 0a1 1b2 2a0", "ab", "A"},
		// The word leaves the graph at the first letter.
		{"2 2 0a1 1b0", "b", "b"}, {"2 2 0a1 1b0", "A", "A"}, {"2 2 0a1 1b0", "bab", "bab"}, {"2 2 0a1 1b0", "Ab", "Ab"}, {"2 1 0b0", "abbA", "abbA"}, {"3 1 0b0", "cb", "cb"}, {"2 1", "abAB", "abAB"},
		// It leaves the graph later on, even if the rest could be read elsewhere.
		{"2 2 0a1 1b0", "abaab", "aab"}, {"2 2 0a1 1b0", "aa", "aa"}, {"2 2 0a1 1b0", "aaab", "aaab"}, {"2 2 0a1 1b0", "abb", "b"}, {"2 2 0a1 1b0", "Baba", "aaba"}, {"2 1 0b0", "bbabb", "abb"}, {"2 1 0b0", "BBBa", "a"}, {"2 1 0a0", "aabAA", "bAA"}, {"2 2 0a1 1b1", "abbba", "aa"}, {"2 2 0a1 1b1", "aBBAb", "b"}, {"2 3 0a1 1b2 2a0", "abb", "Ab"}, {"2 3 0a1 1b2 2a0", "aba", "1"}, {"2 3 0a1 1b2 2a0", "abab", "b"}, {"2 3 0a1 1b2 2a0", "ABBa", "aBa"},
		// Lists that are not reduced, also where their own letters would leave the graph.
		{"2 2 0a1 1b0", "bBab", "1"}, {"2 2 0a1 1b0", "Aaa", "a"}, {"2 2 0a1 1b0", "abBaAb", "1"}, {"2 2 0a1 1b0", "cCa", "a"}, {"2 2 0a1 1b0", "acC", "a"}, {"2 2 0a1 1b0", "abbBa", "a"}, {"2 2 0a1 1b0", "abaabB", "aa"}, {"2 1 0b0", "baAb", "1"}, {"2 1 0b0", "bacCAb", "1"},
		// Letters that the rank does not have.
		{"2 2 0a1 1b0", "c", "c"}, {"2 2 0a1 1b0", "abc", "c"}, {"2 2 0a1 1b0", "abaCab", "aCab"}, {"1 1 0a0", "aabaa", "baa"}, {"2 1 0a0 0b0", "abcba", "cba"}, {"1 1", "cb", "cb"},
	} {
		checkCoset(t, drawn(c.g), word(c.w), word(c.want))
	}
}

// Two words are in one coset exactly if CosetOf gives one word for both, and that word is in their coset, and its own.
func TestEveryWordLiesInOneCoset(t *testing.T) {
	r := rand.New(rand.NewPCG(12, 3))
	same, different := 0, 0
	for _, g := range coresForCosets() {
		all := wordsForCosets(r, g)
		cosets := make([][]int, len(all))
		for i, w := range all {
			coset, ok := impl.CosetOf(g, w)
			if !ok || !isReduced(coset) {
				t.Errorf("CosetOf(%v, %v) = %v, %t", g, w, coset, ok)
			}
			checkSame(t, g, coset, w, true)
			checkSame(t, g, w, coset, true)
			checkSame(t, g, w, w, true)
			checkCoset(t, g, coset, coset)
			cosets[i] = coset
		}
		for range 60 {
			i, k := r.IntN(len(all)), r.IntN(len(all))
			isOne := slices.Equal(cosets[i], cosets[k])
			checkSame(t, g, all[i], all[k], isOne)
			if wantSame(g, all[i], all[k]) != isOne {
				t.Errorf("CosetOf(%v, %v) = %v, CosetOf(%v) = %v", g, all[i], cosets[i], all[k], cosets[k])
			}
			if isOne {
				same++
			} else {
				different++
			}
		}
	}
	if same < 500 || different < 500 {
		t.Errorf("%d pairs are in one coset, %d are not", same, different)
	}
}

func TestSameCoset(t *testing.T) {
	lists := everyNth(listsToTest(), 31)
	for _, g := range coresForCosets() {
		for _, v := range lists {
			for _, w := range everyNth(lists, 3) {
				checkSame(t, g, v, w, wantSame(g, v, w))
			}
		}
	}
	for _, c := range []struct {
		g    string
		a    string
		b    string
		want bool
	}{
		{"2 2 0a1 0b0 1a0 1b1", "a", "bab", true}, {"2 2 0a1 0b0 1a0 1b1", "a", "b", false}, {"2 2 0a1 0b0 1a0 1b1", "A", "a", true}, {"2 2 0a1 0b0 1a0 1b1", "1", "b", true}, {"2 2 0a1 0b0 1a0 1b1", "1", "1", true},
		// The element of the subgroup stands in front, not behind.
		{"2 1 0b0", "a", "ba", true}, {"2 1 0b0", "a", "ab", false}, {"2 1 0b0", "bba", "Ba", true}, {"2 1 0b0", "abb", "aB", false}, {"2 2 0a1 1b0", "b", "abb", true}, {"2 2 0a1 1b0", "b", "bab", false}, {"2 2 0a1 1b0", "a", "B", true}, {"2 2 0a1 1b0", "A", "b", false}, {"2 2 0a1 1b0", "aab", "abaab", true}, {"2 2 0a1 1b0", "aab", "aa", false},
		// Lists that are not reduced, and letters that the rank does not have.
		{"2 1 0b0", "aA", "bcC", true}, {"2 1 0b0", "c", "bc", true}, {"2 1 0b0", "c", "cb", false}, {"2 1 0b0", "c", "C", false}, {"2 1 0b0", "ca", "baAca", true}, {"1 1 0a0", "b", "aaab", true}, {"1 1 0a0", "b", "1", false}, {"2 1", "ab", "acCb", true}, {"2 1", "a", "b", false},
	} {
		checkSame(t, drawn(c.g), word(c.a), word(c.b), c.want)
		checkSame(t, drawn(c.g), word(c.b), word(c.a), c.want)
	}
}

// The name of a coset is the first of its words by CompareWords.
func TestCosetOfIsTheFirstWord(t *testing.T) {
	for _, g := range slices.Concat(smallCores(1, 4), everyNth(smallCores(2, 3), 5), everyNth(smallCores(3, 2), 11), everyNth(randomCovers(18), 2)) {
		for _, w := range everyNth(reducedWords(g.Rank, 5-g.Rank), 3) {
			coset, _ := impl.CosetOf(g, w)
			all := reducedWords(g.Rank, len(coset))
			i := slices.IndexFunc(all, func(v []int) bool { return wantSame(g, v, w) })
			if i < 0 || !slices.Equal(all[i], coset) {
				t.Errorf("CosetOf(%v, %v) = %v, which is not the first word of the coset", g, w, coset)
			}
		}
	}
}

// The words of the vertices name different cosets, themselves; they are all cosets if the index is finite, and the others leave the graph.
func TestTransversals(t *testing.T) {
	r := rand.New(rand.NewPCG(12, 4))
	for _, g := range coresForCosets() {
		transversal := impl.TransversalOf(g)
		if len(transversal) != g.Size {
			t.Errorf("TransversalOf(%v) = %v", g, transversal)
		}
		for i, v := range transversal {
			checkCoset(t, g, v, v)
			for k, w := range transversal {
				checkSame(t, g, v, w, i == k)
			}
			if end, ok := impl.WalkWord(g, 0, v); end != i || !ok {
				t.Errorf("the word %v in TransversalOf(%v) leads to %d", v, g, end)
			}
		}
		for _, w := range everyNth(wordsForCosets(r, g), 3) {
			n := 0
			for _, v := range transversal {
				if impl.SameCoset(g, v, w) {
					n++
				}
			}
			want := 0
			if reduced := wantReduced(w); impl.ReadLength(g, 0, reduced) == len(reduced) {
				want = 1
			}
			if n != want {
				t.Errorf("%d cosets of TransversalOf(%v) have the word %v, want %d", n, g, w, want)
			}
		}
	}
}

// A row of the table tells to which cosets the letters lead from one, and a column permutes the cosets.
func TestCosetTable(t *testing.T) {
	for _, g := range slices.Concat(coresToTest(), randomCovers(60)) {
		table, transversal := impl.CosetTable(g), impl.TransversalOf(g)
		if !impl.IsFiniteIndex(g) {
			checkWords(t, table, nil, "CosetTable", g)
			continue
		}
		if len(table) != g.Size {
			t.Errorf("CosetTable(%v) = %v", g, table)
			continue
		}
		for i, letter := range lettersOf(g.Rank) {
			var column []int
			for v, row := range table {
				if len(row) != 2*g.Rank || row[i] != impl.NextVertex(g, v, letter) {
					t.Fatalf("CosetTable(%v) has the row %v of %d", g, row, v)
				}
				checkCoset(t, g, append(slices.Clone(transversal[v]), letter), transversal[row[i]])
				column = append(column, row[i])
			}
			slices.Sort(column)
			checkList(t, column, namesUpTo(g.Size), "a column of CosetTable", g, letter)
		}
	}
}

// Elements of the subgroup in front do not change a coset, and letters behind lead from coset to coset.
func TestElementsInFrontAndLettersBehind(t *testing.T) {
	r := rand.New(rand.NewPCG(12, 5))
	for _, g := range coresForCosets() {
		elements := append(wantBasis(g), wordsOf(r, wantBasis(g), 3)...)
		for _, w := range everyNth(wordsForCosets(r, g), 7) {
			coset, _ := impl.CosetOf(g, w)
			for _, v := range elements[:min(len(elements), 6)] {
				checkCoset(t, g, slices.Concat(v, w), coset)
				checkCoset(t, g, slices.Concat(wantInvert(v), w), coset)
				checkSame(t, g, slices.Concat(v, w), w, true)
			}
			for _, letter := range lettersOf(3) {
				next, _ := impl.CosetOf(g, append(slices.Clone(coset), letter))
				checkCoset(t, g, append(slices.Clone(w), letter), next)
			}
		}
		for _, v := range elements {
			checkCoset(t, g, v, nil)
			checkSame(t, g, v, nil, true)
			checkSame(t, g, nil, v, true)
		}
	}
}

// Cosets of known subgroups are told apart without their graphs; short words are enough to find all of them if the index is finite.
func TestCosetsOfKnownSubgroups(t *testing.T) {
	indices := map[string]int{"a": 1, "a,b": 1, "bab,b": 1, "aab,ab": 1, "a,b,c": 1, "ab,bc,c": 1, "aaa": 3, "aaaa,aaaaaa": 2, "aaaaaaaaaaaa,AAAAAAAA": 4, "aa,ab,aB": 2, "b,aa,abA": 2, "aaa,b,abA,aabAA": 3, "aB,babb,bbab,bbba,bbbb": 4, "aa,bb,baBA,abaB,abbA": 4, "b,aa,abaBA,abbA": 3, "b,c,aa,abA,acA": 2, "aa,ab,ac,aB,aC": 2}
	for _, c := range knownSubgroups() {
		index, isFinite := indices[c.generators]
		isFinite = isFinite && (c.rank < 3 || c.generators != "a,b")
		g := generatedBy(c.rank, c.generators)
		if !isFinite {
			index = -1
		}
		if got := impl.IndexOf(g); got != index || impl.IsFiniteIndex(g) != isFinite {
			t.Errorf("IndexOf of the subgroup of %s is %d, want %d", c.generators, got, index)
		}
		// One word of each coset, in the order in which they are found.
		var cosets [][]int
		for _, w := range reducedWords(c.rank, 5-c.rank) {
			isSame := func(v []int) bool { return c.has(wantProduct(v, wantInvert(w))) }
			if i := slices.IndexFunc(cosets, isSame); i < 0 {
				checkCoset(t, g, w, w)
				cosets = append(cosets, w)
			} else {
				checkCoset(t, g, w, cosets[i])
			}
			for _, v := range everyNth(reducedWords(c.rank, 2), 3) {
				checkSame(t, g, v, w, isSame(v))
			}
		}
		if isFinite != (len(cosets) == index) {
			t.Errorf("the subgroup of %s has the cosets %v", c.generators, cosets)
		}
	}
}

// Where a word leaves the graph, the rest of it is kept as it is, even if it could be read elsewhere.
func TestWordsThatLeaveTheGraph(t *testing.T) {
	for _, g := range coresForCosets() {
		transversal := wantTransversal(g)
		for _, m := range wantMissing(g) {
			if m.From > 5 && m.From < g.Size-2 {
				continue
			}
			there := transversal[m.From]
			for _, rest := range [][]int{nil, {m.Letter}, {1}, {-2, -2}, {3, 1}, {7, 0}, {math.MinInt}} {
				if rest = append([]int{m.Letter}, rest...); !isReduced(rest) {
					continue
				}
				checkCoset(t, g, slices.Concat(there, rest), slices.Concat(there, rest))
				for _, v := range wantBasis(g)[:min(impl.RankOf(g), 2)] {
					checkCoset(t, g, slices.Concat(v, there, rest), slices.Concat(there, rest))
				}
			}
			checkSame(t, g, append(slices.Clone(there), m.Letter), there, false)
			checkSame(t, g, append(slices.Clone(there), m.Letter), nil, false)
		}
	}
}

// Letters that the rank does not have lead out of the graph, and so do the numbers that are inverse to no letter. These never cancel, so that a list with one of them is in no coset with any list, itself included.
func TestStrangeLettersInCosets(t *testing.T) {
	for _, g := range coresForCosets() {
		transversal := wantTransversal(g)
		for _, letter := range strangeLetters(g.Rank) {
			hasInverse := letter != 0 && letter != math.MinInt
			for i, v := range everyNth(transversal, 3) {
				w := append(slices.Clone(v), letter)
				checkCoset(t, g, w, w)
				checkCoset(t, g, append(slices.Clone(w), 1, 2), append(slices.Clone(w), 1, 2))
				checkCoset(t, g, append(slices.Clone(w), 1, -1), w)
				checkSame(t, g, w, v, false)
				checkSame(t, g, v, w, false)
				checkSame(t, g, w, w, hasInverse)
				checkSame(t, g, w, []int{letter}, hasInverse && i == 0)
				if hasInverse {
					checkCoset(t, g, append(slices.Clone(w), -letter), v)
					checkSame(t, g, append(slices.Clone(w), -letter), v, true)
				} else {
					checkCoset(t, g, append(slices.Clone(w), letter), append(slices.Clone(w), letter))
					checkSame(t, g, append(slices.Clone(w), letter), v, false)
				}
			}
			for _, v := range wantBasis(g)[:min(impl.RankOf(g), 3)] {
				checkCoset(t, g, append(slices.Clone(v), letter), []int{letter})
				checkSame(t, g, append(slices.Clone(v), letter), []int{letter}, hasInverse)
				checkSame(t, g, append([]int{letter}, v...), []int{letter}, false)
			}
		}
	}
}

// Words may be longer than MaxWord.
func TestCosetsOfLongWords(t *testing.T) {
	g, h := generatedBy(2, "aa,b,abA"), generatedBy(2, "ab")
	for _, n := range []int{24, 25, 200, 1001, 100000} {
		checkCoset(t, g, slices.Repeat(word("a"), n), slices.Repeat(word("a"), n%2))
		checkSame(t, g, slices.Repeat(word("ab"), n), slices.Repeat(word("Ba"), n), true)
		checkSame(t, g, slices.Repeat(word("ab"), n), slices.Repeat(word("Ba"), n+1), false)
		checkCoset(t, h, slices.Repeat(word("ab"), n), nil)
		checkCoset(t, h, slices.Repeat(word("ba"), n), slices.Repeat(word("ba"), n))
		checkCoset(t, h, slices.Concat(slices.Repeat(word("ab"), n), slices.Repeat(word("b"), n)), slices.Repeat(word("b"), n))
		checkCoset(t, h, slices.Concat(slices.Repeat(word("b"), n), slices.Repeat(word("B"), n+1)), word("a"))
		checkSame(t, h, slices.Concat(slices.Repeat(word("ab"), n), word("bb")), word("bb"), true)
		checkSame(t, h, slices.Concat(word("bb"), slices.Repeat(word("ab"), n)), word("bb"), false)
	}
	// The word of the last vertex of the longest line, and around the longest ring.
	tail := lineGraph(2, maxVertices, 1)
	tail.Edges = append(tail.Edges, edge(39, 2, 39))
	there := slices.Repeat([]int{1}, 39)
	checkCoset(t, tail, slices.Concat(there, []int{2, 2, 2, 1}), append(slices.Clone(there), 1))
	checkWords(t, impl.TransversalOf(tail)[39:], [][]int{there}, "TransversalOf", "the longest tail")
	ring := wantCoreGraph(ringGraph(maxVertices, 1))
	if n := impl.IndexOf(ring); n != maxVertices {
		t.Errorf("IndexOf the longest ring is %d", n)
	}
	checkCoset(t, ring, slices.Repeat([]int{1}, 1021), slices.Repeat([]int{-1}, 19))
}

// Lists with nothing in them are treated alike, whether they are nil or empty.
func TestCosetsWithEmptyLists(t *testing.T) {
	for _, edges := range [][]impl.Edge{nil, {}} {
		g := graph{Rank: 2, Size: 1, Edges: edges}
		checkEdges(t, impl.MissingSteps(g), []impl.Edge{edge(0, 1, -1), edge(0, -1, -1), edge(0, 2, -1), edge(0, -2, -1)}, "MissingSteps", g)
		checkWords(t, impl.TransversalOf(g), [][]int{nil}, "TransversalOf", g)
		checkWords(t, impl.CosetTable(g), nil, "CosetTable", g)
		for _, v := range [][]int{nil, {}, {1, -1}} {
			checkCoset(t, g, v, nil)
			for _, w := range [][]int{nil, {}, {2, -2}} {
				checkSame(t, g, v, w, true)
			}
		}
		checkNoCosets(t, graph{Edges: edges})
		checkEdges(t, impl.MissingSteps(graph{Edges: edges}), nil, "MissingSteps", graph{})
	}
}

// No two words of a transversal and no two rows of a table share memory, not even in their unused capacity, and none is shared with a later result.
func TestRowsShareNoMemory(t *testing.T) {
	for _, g := range coresForCosets() {
		for _, c := range []struct {
			call string
			rows func(g graph) [][]int
			want [][]int
		}{{"TransversalOf", impl.TransversalOf, wantTransversal(g)}, {"CosetTable", impl.CosetTable, wantTable(g)}} {
			for i := range c.want {
				got := c.rows(g)
				overwritten(got[i])
				got[i] = c.want[i]
				checkWords(t, got, c.want, c.call+", with one row overwritten,", g, i)
			}
			got := c.rows(g)
			for i := range got[:cap(got)] {
				got[:cap(got)][i] = []int{55}
			}
			checkWords(t, c.rows(g), c.want, c.call, g)
		}
	}
}

// Arguments keep their elements and unused capacity, and a change to a result changes no argument and no later result.
func TestCosetsShareNoMemory(t *testing.T) {
	for _, original := range slices.Concat(coresForCosets(), everyNth(noCores(), 3)) {
		g, memory := graphWithRoom(original)
		wantMemory := slices.Clone(memory)
		var want []int
		for _, letters := range [][]int{nil, {1}, {1, 2, 1, 2}, {2, 2, 1, -2}, {1, -1, 2}, {3, 2, 1}, {0, 0}, {1, math.MinInt}, longWord(30)} {
			w, letterMemory := withRoom(letters)
			wantLetters := slices.Clone(letterMemory)
			isCore := wantIsCore(original)
			if isCore {
				want = wantCoset(original, wantTransversal(original), letters)
			}
			for range 2 {
				got, ok := impl.CosetOf(g, w)
				if !slices.Equal(got, want) || ok != isCore {
					t.Errorf("CosetOf(%v, %v) = %v, %t, want %v", original, letters, got, ok, want)
				}
				overwritten(got)
				impl.SameCoset(g, w, w)
			}
			checkList(t, letterMemory, wantLetters, "letters", original)
		}
		for range 2 {
			missing := impl.MissingSteps(g)
			checkEdges(t, missing, wantMissing(original), "MissingSteps", original)
			overwrittenGraph(graph{Edges: missing})
			impl.IndexOf(g)
			impl.TransversalOf(g)
			impl.CosetTable(g)
		}
		if !slices.Equal(memory, wantMemory) {
			t.Errorf("the edges of %v have changed to %v", original, memory)
		}
	}
	// Even a word that names its own coset is copied.
	g := generatedBy(2, "ab")
	w := word("aab")
	coset, _ := impl.CosetOf(g, w)
	overwritten(coset)
	checkList(t, w, word("aab"), "a list that names its coset", g)
}

// Calls at the same time have no state in common, even for the same graph.
func TestCosetsAtTheSameTime(t *testing.T) {
	cores := coresForCosets()
	var texts [8][]string
	var group sync.WaitGroup
	for i := range texts {
		group.Go(func() {
			for _, g := range cores {
				coset, ok := impl.CosetOf(g, word("abbaBAbab"))
				texts[i] = append(texts[i], fmt.Sprint(impl.MissingSteps(g), impl.IndexOf(g), impl.TransversalOf(g), impl.CosetTable(g), coset, ok, impl.SameCoset(g, word("ab"), word("Ba"))))
			}
		})
	}
	group.Wait()
	for i := range texts {
		if !slices.Equal(texts[i], texts[0]) {
			t.Errorf("calls at the same time differ: %d", i)
		}
	}
	for _, g := range cores {
		checkIndex(t, g)
	}
}
