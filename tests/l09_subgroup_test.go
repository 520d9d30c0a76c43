package tests

import (
	"math"
	"math/rand/v2"
	"slices"
	"strings"
	"sync"
	"testing"

	"loop.example/g02075/impl"
)

// Promise 4, as far as chapter 9 goes: a subgroup contains its generators, products and inverses of what it contains, and nothing else; one subgroup lies inside another one exactly if that one contains every word that it contains.
// The wanted results are computed here in the plainest way: from the definitions of the chapter, and from all products of generators, without any graph.

// listed writes a list of words as in FormatWords, also an empty one.
func listed(s string) [][]int {
	if s == "none" {
		return nil
	}
	return words(s)
}

func wantSubgroup(rank int, l [][]int) (graph, bool) {
	g, ok := wantFlower(rank, l)
	if !ok {
		return graph{}, false
	}
	return wantCoreGraph(g), true
}

// generatedBy returns the core that SubgroupOf should return for words that are valid.
func generatedBy(rank int, s string) graph {
	g, ok := wantSubgroup(rank, listed(s))
	if !ok {
		panic(s + " are no words")
	}
	return g
}

func wantContains(g graph, w []int) bool {
	if !wantIsCore(g) {
		return false
	}
	end, ok := wantWalk(g, 0, wantReduced(w))
	return ok && end == 0
}

// wantIsInside expects b to contain the loops of a at the base through each of its edges, which generate all others.
func wantIsInside(a graph, b graph) bool {
	if !wantIsCore(a) || !wantIsCore(b) || a.Rank != b.Rank {
		return false
	}
	for _, e := range a.Edges {
		there, _ := wantPath(a, 0, e.From)
		back, _ := wantPath(a, 0, e.To)
		if end, ok := wantWalk(b, 0, wantProduct(there, []int{e.Letter}, wantInvert(back))); !ok || end != 0 {
			return false
		}
	}
	return true
}

func wantWhole(rank int) graph {
	return []graph{drawn("1 1 0a0"), drawn("2 1 0a0 0b0"), drawn("3 1 0a0 0b0 0c0")}[rank-1]
}

// ball holds all reduced words of a rank up to a length, and where the product of any two of them is, -1 if it is longer.
type ball struct {
	rank     int
	words    [][]int
	places   map[string]int
	products [][]int
}

func ballOf(rank int, radius int) ball {
	b := ball{rank: rank, words: reducedWords(rank, radius), places: map[string]int{}}
	for i, w := range b.words {
		b.places[wantFormatWord(w)] = i
	}
	for _, v := range b.words {
		var row []int
		for _, w := range b.words {
			place, ok := b.places[wantFormatWord(wantProduct(v, w))]
			if !ok {
				place = -1
			}
			row = append(row, place)
		}
		b.products = append(b.products, row)
	}
	return b
}

// generated tells which words of the ball are products of generators, which must lie in the ball, and their inverses.
// It is enough to multiply within the ball: Nielsen's method makes no generator longer, and with reduced ones no beginning of a product is longer than the product.
func (b ball) generated(l [][]int) []bool {
	isThere := make([]bool, len(b.words))
	var found []int
	find := func(i int) {
		if i != -1 && !isThere[i] {
			isThere[i] = true
			found = append(found, i)
		}
	}
	find(0)
	for _, w := range l {
		find(b.places[wantFormatWord(w)])
		find(b.places[wantFormatWord(wantInvert(w))])
	}
	for n := 0; n < len(found); n++ {
		for _, i := range slices.Clone(found) {
			find(b.products[i][found[n]])
			find(b.products[found[n]][i])
		}
	}
	return isThere
}

// sampleBalls returns balls with lists of generators in them.
func sampleBalls() []ball {
	return []ball{ballOf(1, 9), ballOf(2, 4), ballOf(3, 2)}
}

func generatorsIn(b ball) [][][]int {
	switch b.rank {
	case 1:
		return wordLists(reducedWords(1, 4), 2)
	case 2:
		return slices.Concat(wordLists(reducedWords(2, 1), 3), wordLists(reducedWords(2, 2), 2), everyNth(wordLists(reducedWords(2, 3), 2), 7), everyNth(wordLists(reducedWords(2, 2), 3), 17))
	}
	return slices.Concat(everyNth(wordLists(reducedWords(3, 1), 3), 5), everyNth(wordLists(reducedWords(3, 2), 2), 11))
}

// smallCores returns all cores of a rank with up to size vertices.
func smallCores(rank int, size int) []graph {
	var l []graph
	for n := 1; n <= size; n++ {
		l = append(l, slices.DeleteFunc(foldedGraphs(rank, n), func(g graph) bool { return !wantIsCore(g) })...)
	}
	return l
}

// largeCores returns the cores of large graphs, some of them with the most vertices, the most edges or both.
func largeCores() []graph {
	var l []graph
	for _, g := range slices.Concat(largeFoldedGraphs(), overgrownGraphs(40), limitGraphs()) {
		l = append(l, wantCoreGraph(g))
	}
	longTail := lineGraph(3, maxVertices, 1, 2, 3)
	longTail.Edges = append(longTail.Edges, edge(maxVertices-1, 1, maxVertices-1))
	return append(l, longTail)
}

// noCores returns graphs that are no cores: not valid, not folded, not trimmed, not connected, not canonical.
func noCores() []graph {
	l := slices.Concat(invalidToFold(), unfoldedGraphs())
	for _, s := range []string{
		"2 2", "2 2 0a1", "2 2 1a0", "2 3 0a0 0b1 1b2", "2 3 0a1 0b2 1b1", "1 3 0a1 1a2", "2 3 0a1 0b2 1a0", "2 2 0a0 0b1",
		"2 2 0a0 1a1 1b1", "2 3 0a1 1a0 2b2", "2 2 0a0 0b0 1a1 1b1", "1 40", "1 2 0a0 1a1",
		"2 3 0a2 1a0 2b1", "2 3 0a2 1a1 2b1", "2 3 0a2 0b1 1a1 2b2", "1 3 0a2 1a0 2a1", "3 3 0b2 0c1 1a1 2a2", "2 3 0a2 0b1 1b0 2a0",
	} {
		l = append(l, drawn(s))
	}
	for _, g := range everyNth(smallCores(2, 3), 9) {
		// The same subgroup with a branch that ends nowhere, and with a part that is not connected with the base.
		l = append(l, graphOf(2, g.Size+1, g.Edges...), graphOf(2, g.Size+1, append(slices.Clone(g.Edges), edge(g.Size, 1, g.Size))...))
		if len(wantSteps(g, g.Size-1, 2)) == 0 {
			l = append(l, graphOf(2, g.Size+1, append(slices.Clone(g.Edges), edge(g.Size-1, 2, g.Size))...))
		}
	}
	for _, g := range slices.Concat(everyNth(smallCores(2, 3), 5), largeCores()) {
		// The same subgroup with its vertices in another order.
		order := namesUpTo(g.Size)
		slices.Reverse(order[1:])
		if renamed, _ := wantRenumber(g, order); !wantEqualGraphs(renamed, g) {
			l = append(l, renamed)
		}
	}
	return slices.DeleteFunc(l, wantIsCore)
}

// listsToTest returns lists of letters, reduced or not, with letters and other numbers.
func listsToTest() [][]int {
	l := listsOver([]int{1, -1, 2, -2}, 4)
	l = append(l, listsOver([]int{0, 1, -1, 2, -3, 3, 9, -9, math.MinInt, math.MaxInt, -math.MaxInt}, 2)...)
	for _, n := range []int{0, 3, -3, 4, 1 << 32, math.MinInt, math.MaxInt} {
		l = append(l, []int{1, n, -n, 2}, []int{1, -n, n, 2}, []int{n, 1, 2, -n}, []int{1, n, 2, -n}, []int{1, n, n, 2}, []int{n, 1, -1, -n, 1, 2})
	}
	return append(l, longWord(25), longWord(200), slices.Repeat([]int{1, 2}, 50), slices.Repeat([]int{1, -1}, 50))
}

func checkSubgroup(t *testing.T, rank int, l [][]int) {
	t.Helper()
	got, ok := impl.SubgroupOf(rank, l)
	want, wantOk := wantSubgroup(rank, l)
	checkGraph(t, got, ok, want, wantOk, "SubgroupOf", rank, l)
}

func checkContains(t *testing.T, g graph, w []int, want bool) {
	t.Helper()
	if got := impl.Contains(g, w); got != want {
		t.Errorf("Contains(%v, %v) = %t", g, w, got)
	}
	if got := impl.ContainsAll(g, [][]int{w}); got != want {
		t.Errorf("ContainsAll(%v, %v alone) = %t", g, w, got)
	}
}

func checkIsInside(t *testing.T, a graph, b graph, want bool) {
	t.Helper()
	if got := impl.IsInside(a, b); got != want {
		t.Errorf("IsInside(%v, %v) = %t", a, b, got)
	}
}

func TestSubgroupOf(t *testing.T) {
	for _, rank := range sampleRanks() {
		for _, l := range everyNth(sampleLists(), 2) {
			checkSubgroup(t, rank, l)
		}
	}
	r := rand.New(rand.NewPCG(9, 1))
	for i := range 300 {
		var l [][]int
		for range i%maxWords + 1 {
			l = append(l, wantReduced(randomLetters(r, i%3+1, r.IntN(13))))
		}
		checkSubgroup(t, i%3+1, l)
	}
}

func TestSubgroupOfExamples(t *testing.T) {
	for _, c := range []struct {
		rank int
		l    string
		want string
	}{
		{2, "ab,aB", "2 2 0a1 0b1 1b0"},
		{2, "ab,bb", "2 2 0a1 0b1 1b0"},
		{2, "abab", "2 4 0a1 1b3 2b0 3a2"},
		{2, "a", "2 1 0a0"}, {2, "B", "2 1 0b0"}, {2, "aa", "2 2 0a1 1a0"}, {2, "aaa", "2 3 0a1 1a2 2a0"}, {2, "AAA", "2 3 0a1 1a2 2a0"},
		{2, "a,b", "2 1 0a0 0b0"}, {2, "a,ab", "2 1 0a0 0b0"}, {2, "aab,ab", "2 1 0a0 0b0"}, {2, "aba,ab,bb", "2 1 0a0 0b0"},
		{1, "aa,aaa", "1 1 0a0"}, {1, "aaaa,aaaaaa", "1 2 0a1 1a0"}, {1, "aaaa,AAAAAA", "1 2 0a1 1a0"},
		{2, "abA", "2 2 0a1 1b1"}, {2, "aabAA", "2 3 0a1 1a2 2b2"}, {2, "abA,aBA", "2 2 0a1 1b1"}, {2, "abA,a", "2 1 0a0 0b0"},
		{2, "b,aa,abA", "2 2 0a1 0b0 1a0 1b1"}, {2, "aa,bb,ab", "2 2 0a1 0b1 1a0 1b0"},
		{3, "a,c", "3 1 0a0 0c0"}, {3, "ab,bc,ca", "3 4 0a1 0b3 0c2 1b0 2a0 3c0"},
	} {
		got, ok := impl.SubgroupOf(c.rank, words(c.l))
		if s := wantFormatGraph(got); s != c.want || !ok {
			t.Errorf("SubgroupOf(%d, %s) = %s, %t, want %s", c.rank, c.l, s, ok, c.want)
		}
	}
}

// The edge case of this chapter: no generators, or generators that are all empty, generate the trivial subgroup of each rank.
func TestGeneratorsThatAreAllTrivial(t *testing.T) {
	for rank := 1; rank <= 3; rank++ {
		trivial, ok := impl.TrivialSubgroup(rank)
		checkGraph(t, trivial, ok, graphOf(rank, 1), true, "TrivialSubgroup", rank)
		lists := [][][]int{nil, {}, {{}}, {nil, {}}, {{}, nil, {}}}
		for n := range maxWords + 1 {
			lists = append(lists, make([][]int, n))
		}
		for _, l := range lists {
			g, ok := impl.SubgroupOf(rank, l)
			checkGraph(t, g, ok, graphOf(rank, 1), true, "SubgroupOf", rank, len(l))
			if !impl.IsTrivial(g) || impl.IsWhole(g) || !impl.IsSubgroup(g) {
				t.Errorf("SubgroupOf(%d, %v) is trivial: %t, whole: %t, a subgroup: %t", rank, l, impl.IsTrivial(g), impl.IsWhole(g), impl.IsSubgroup(g))
			}
			for _, w := range listsOver([]int{1, -1, 2, -2}, 4) {
				checkContains(t, g, w, len(wantReduced(w)) == 0)
			}
			checkIsInside(t, g, trivial, true)
			checkIsInside(t, trivial, g, true)
			checkIsInside(t, wantWhole(rank), g, false)
		}
		for n := maxWords + 1; n < maxWords+4; n++ {
			g, ok := impl.SubgroupOf(rank, make([][]int, n))
			checkGraph(t, g, ok, graph{}, false, "SubgroupOf", rank, n)
		}
	}
	for _, rank := range sampleRanks() {
		for _, l := range [][][]int{nil, {}, {nil}, {{}, {}}} {
			checkSubgroup(t, rank, l)
		}
	}
	// An empty word adds nothing to other generators, wherever it stands.
	for _, s := range []string{"a", "ab,aB", "abA,bb"} {
		for i := range len(words(s)) + 1 {
			l := slices.Insert(words(s), i, nil)
			g, ok := impl.SubgroupOf(2, l)
			checkGraph(t, g, ok, generatedBy(2, s), true, "SubgroupOf", 2, l)
		}
	}
}

// Ranks that are none and lists that are no words give the zero value and false.
func TestGeneratorsThatAreNoWords(t *testing.T) {
	for _, rank := range sampleRanks() {
		if rank < 1 || rank > 3 {
			for _, s := range []string{"none", "1", "a", "ab,aB", "a,b,c"} {
				g, ok := impl.SubgroupOf(rank, listed(s))
				checkGraph(t, g, ok, graph{}, false, "SubgroupOf", rank, s)
			}
		}
	}
	for _, w := range invalidWords() {
		for _, l := range [][][]int{{w}, {w, {1}}, {{1}, w}, {nil, w, nil}, {{1}, {2}, w, {-1}}} {
			g, ok := impl.SubgroupOf(2, l)
			checkGraph(t, g, ok, graph{}, false, "SubgroupOf", 2, l)
		}
	}
	for _, c := range []struct {
		rank int
		l    [][]int
		want bool
	}{
		{1, words("b"), false}, {2, words("b"), true}, {2, words("c"), false}, {3, words("c"), true}, {2, words("a,b,abc"), false}, {2, words("aA"), false}, {2, words("a,bB"), false},
		{2, slices.Repeat(words("a"), 6), true}, {2, slices.Repeat(words("a"), 7), false}, {2, make([][]int, 100000), false},
		{2, [][]int{longWord(24)}, true}, {2, [][]int{longWord(25)}, false}, {2, [][]int{longWord(24), longWord(15)}, true}, {2, [][]int{longWord(24), longWord(16)}, false}, {2, [][]int{make([]int, 100000)}, false},
		{2, [][]int{{0}}, false}, {2, [][]int{{1, 0}}, false}, {2, [][]int{{math.MinInt}}, false}, {2, [][]int{{1}, {math.MaxInt}}, false},
	} {
		g, ok := impl.SubgroupOf(c.rank, c.l)
		if ok != c.want || !ok && !wantEqualGraphs(g, graph{}) {
			t.Errorf("SubgroupOf(%d, %d words) = %v, %t", c.rank, len(c.l), g, ok)
		}
	}
}

// A subgroup contains the products of its generators and their inverses, and no other words.
func TestContainsExactlyWhatIsGenerated(t *testing.T) {
	for _, b := range sampleBalls() {
		for _, l := range generatorsIn(b) {
			g, ok := impl.SubgroupOf(b.rank, l)
			if !ok {
				t.Fatalf("SubgroupOf(%d, %v) is false", b.rank, l)
			}
			for i, want := range b.generated(l) {
				if got := impl.Contains(g, b.words[i]); got != want {
					t.Errorf("SubgroupOf(%d, %v) contains %v: %t", b.rank, l, b.words[i], got)
				}
			}
		}
	}
}

// Words generate the same graph exactly if they generate the same subgroup, which is so if the same short words are their products.
func TestSameSubgroupSameGraph(t *testing.T) {
	for _, b := range sampleBalls() {
		graphOfWords, wordsOfGraph := map[string]string{}, map[string]string{}
		for _, l := range generatorsIn(b) {
			g, _ := impl.SubgroupOf(b.rank, l)
			var contained strings.Builder
			for _, isThere := range b.generated(l) {
				contained.WriteByte(map[bool]byte{true: '+', false: '-'}[isThere])
			}
			set, s := contained.String(), wantFormatGraph(g)
			if graphOfWords[set] == "" && wordsOfGraph[s] == "" {
				graphOfWords[set], wordsOfGraph[s] = s, set
			}
			if graphOfWords[set] != s || wordsOfGraph[s] != set {
				t.Errorf("SubgroupOf(%d, %v) = %s is not the graph of just the same words", b.rank, l, s)
			}
		}
		if len(graphOfWords) < 5 {
			t.Errorf("there are only %d subgroups of rank %d", len(graphOfWords), b.rank)
		}
	}
}

// Other generators of the same subgroup: in another order, inverted, repeated, multiplied by others.
func TestOtherGenerators(t *testing.T) {
	for _, c := range []struct {
		rank int
		a    string
		b    string
		want bool
	}{
		{2, "ab,aB", "ab,bb", true}, {2, "ab,aB", "BB,bA", true}, {2, "ab,aB", "ab,aB,bb,abaB", true}, {2, "ab,aB", "ab,b", false}, {2, "ab,aB", "ab,aabb", false}, {2, "ab,aB", "ba,bA", false},
		{2, "a,b", "ab,b", true}, {2, "a,b", "aba,ab", true}, {2, "a,b", "aab,ab", true}, {2, "a,b", "aa,b", false}, {2, "a,b", "aa,aaa,b", true}, {2, "a,b", "abAB,a", false},
		{2, "aa", "AA", true}, {2, "aa", "aaaa,aaaaaa", true}, {2, "aa", "aaaa", false}, {2, "aa", "aa,1,aa", true}, {2, "none", "1,1", true}, {2, "none", "a", false},
		{2, "abA", "aBA", true}, {2, "abA", "abbA,abbbA", true}, {2, "abA", "Aba", false}, {2, "abA,aabAA", "aabAA,abA", true},
		{3, "a,b,c", "ab,bc,c", true}, {3, "a,b,c", "ab,bc,ca", false}, {3, "a,b", "ab,bA", false}, {3, "a,b", "b,Ab", true}, {3, "abc,bca", "CBA,ACB", true},
	} {
		g, ok := impl.SubgroupOf(c.rank, listed(c.a))
		h, alsoOk := impl.SubgroupOf(c.rank, listed(c.b))
		if !ok || !alsoOk || impl.EqualGraphs(g, h) != c.want || (impl.IsInside(g, h) && impl.IsInside(h, g)) != c.want {
			t.Errorf("SubgroupOf(%d, %s) = %v, %t, and with %s %v, %t", c.rank, c.a, g, ok, c.b, h, alsoOk)
		}
	}
	r := rand.New(rand.NewPCG(9, 2))
	for i := range 200 {
		rank := i%3 + 1
		var l [][]int
		for range 2 + r.IntN(3) {
			l = append(l, wantReduced(randomLetters(r, rank, r.IntN(6))))
		}
		g, _ := impl.SubgroupOf(rank, l)
		for range 8 {
			k, n := r.IntN(len(l)), r.IntN(len(l))
			m := slices.Clone(l)
			switch r.IntN(4) {
			case 0:
				m[k], m[n] = m[n], m[k]
			case 1:
				m[k] = wantInvert(m[k])
			case 2:
				if k != n {
					m[k] = wantProduct(m[k], m[n])
				}
			case 3:
				if k != n {
					m[k] = wantProduct(wantInvert(m[n]), m[k])
				}
			}
			if !wantAreWords(rank, m) {
				continue
			}
			l = m
			h, ok := impl.SubgroupOf(rank, l)
			checkGraph(t, h, ok, g, true, "SubgroupOf", rank, l)
		}
	}
}

// known is a subgroup whose words can be told without its graph.
type known struct {
	rank       int
	generators string
	has        func(w []int) bool
}

func exponentSum(w []int, letter int) int {
	n := 0
	for _, x := range w {
		if x == letter {
			n++
		} else if x == -letter {
			n--
		}
	}
	return n
}

// isPowerOf tries all powers up to the length of a word.
func isPowerOf(root string) func(w []int) bool {
	return func(w []int) bool {
		for k := range len(w) + 1 {
			power := wantReduced(slices.Repeat(word(root), k))
			if slices.Equal(w, power) || slices.Equal(w, wantInvert(power)) {
				return true
			}
		}
		return false
	}
}

func lacks(letter int) func(w []int) bool {
	return func(w []int) bool { return !slices.Contains(w, letter) && !slices.Contains(w, -letter) }
}

// fixes tells whether a word leaves the point 0 where it is, if each letter exchanges two points.
func fixes(swaps ...[2]int) func(w []int) bool {
	return func(w []int) bool {
		at := 0
		for _, letter := range w {
			swap := swaps[max(letter, -letter)-1]
			if at == swap[0] {
				at = swap[1]
			} else if at == swap[1] {
				at = swap[0]
			}
		}
		return at == 0
	}
}

func knownSubgroups() []known {
	always := func(w []int) bool { return true }
	return []known{
		{1, "none", func(w []int) bool { return len(w) == 0 }},
		{2, "1,1", func(w []int) bool { return len(w) == 0 }},
		{1, "a", always}, {2, "a,b", always}, {2, "bab,b", always}, {2, "aab,ab", always}, {3, "a,b,c", always}, {3, "ab,bc,c", always},
		{1, "aaa", func(w []int) bool { return len(w)%3 == 0 }},
		{1, "aaaa,aaaaaa", func(w []int) bool { return len(w)%2 == 0 }},
		{1, "aaaaaaaaaaaa,AAAAAAAA", func(w []int) bool { return len(w)%4 == 0 }},
		{2, "aa,ab,aB", func(w []int) bool { return len(w)%2 == 0 }},
		{2, "b,aa,abA", func(w []int) bool { return exponentSum(w, 1)%2 == 0 }},
		{2, "aaa,b,abA,aabAA", func(w []int) bool { return exponentSum(w, 1)%3 == 0 }},
		{2, "aB,babb,bbab,bbba,bbbb", func(w []int) bool { return (exponentSum(w, 1)+exponentSum(w, 2))%4 == 0 }},
		{2, "aa,bb,baBA,abaB,abbA", func(w []int) bool { return exponentSum(w, 1)%2 == 0 && exponentSum(w, 2)%2 == 0 }},
		{3, "a,b", lacks(3)}, {3, "a,c", lacks(2)}, {3, "cb,b", lacks(1)}, {2, "b", lacks(1)}, {3, "c", func(w []int) bool { return lacks(1)(w) && lacks(2)(w) }},
		{2, "abA", func(w []int) bool { return lacks(1)(wantProduct(word("A"), w, word("a"))) }},
		{3, "abA,acA", func(w []int) bool { return lacks(1)(wantProduct(word("A"), w, word("a"))) }},
		{2, "ab", isPowerOf("ab")}, {2, "aa", isPowerOf("aa")}, {2, "abAB", isPowerOf("abAB")}, {2, "abbA", isPowerOf("abbA")}, {3, "abc", isPowerOf("abc")},
		{2, "b,aa,abaBA,abbA", fixes([2]int{0, 1}, [2]int{1, 2})},
		{3, "b,c,aa,abA,acA", fixes([2]int{0, 1}, [2]int{2, 3}, [2]int{2, 3})},
		{3, "aa,ab,ac,aB,aC", func(w []int) bool { return len(w)%2 == 0 }},
	}
}

func TestKnownSubgroups(t *testing.T) {
	tests := map[int][][]int{2: reducedWords(2, 6), 3: reducedWords(3, 4)}
	for n := range 50 {
		tests[1] = append(tests[1], slices.Repeat([]int{1}, n), slices.Repeat([]int{-1}, n))
	}
	for _, c := range knownSubgroups() {
		g, ok := impl.SubgroupOf(c.rank, listed(c.generators))
		if !ok {
			t.Errorf("SubgroupOf(%d, %s) is false", c.rank, c.generators)
		}
		for _, w := range tests[c.rank] {
			if got, want := impl.Contains(g, w), c.has(w); got != want {
				t.Errorf("SubgroupOf(%d, %s) contains %s: %t", c.rank, c.generators, wantFormatWord(w), got)
			}
		}
	}
}

// Products and inverses of what a subgroup contains are contained, and a product with one word that is not is not.
func TestProductsAndInversesAreContained(t *testing.T) {
	r := rand.New(rand.NewPCG(9, 3))
	for i := range 150 {
		rank := i%3 + 1
		var l [][]int
		for range 1 + r.IntN(maxWords) {
			l = append(l, wantReduced(randomLetters(r, rank, r.IntN(8))))
		}
		g, ok := impl.SubgroupOf(rank, l)
		if !ok || !impl.ContainsAll(g, l) {
			t.Errorf("SubgroupOf(%d, %v) = %v, %t, contains all: %t", rank, l, g, ok, impl.ContainsAll(g, l))
		}
		for range 10 {
			var product []int
			for range r.IntN(12) {
				w := l[r.IntN(len(l))]
				if r.IntN(2) == 0 {
					w = wantInvert(w)
				}
				// As it is written, not reduced.
				product = append(product, w...)
			}
			checkContains(t, g, product, true)
			checkContains(t, g, wantReduced(product), true)
			checkContains(t, g, wantInvert(product), true)
			other := randomLetters(r, rank, r.IntN(8))
			isThere := wantContains(g, other)
			for _, w := range [][]int{other, wantInvert(other), slices.Concat(product, other), slices.Concat(other, product), slices.Concat(product, wantInvert(other), product)} {
				checkContains(t, g, w, isThere)
			}
		}
	}
	for _, g := range slices.Concat(everyNth(smallCores(2, 3), 3), largeCores()) {
		loops := wantLoops(g, 0, 4)
		for _, v := range loops {
			checkContains(t, g, v, true)
			checkContains(t, g, wantInvert(v), true)
			checkContains(t, g, slices.Concat(v, loops[len(loops)-1], wantInvert(v)), true)
		}
	}
}

func TestContains(t *testing.T) {
	lists := listsToTest()
	for _, g := range slices.Concat(everyNth(smallCores(2, 3), 4), smallCores(1, 3), everyNth(smallCores(3, 2), 9)) {
		for _, w := range lists {
			checkContains(t, g, w, wantContains(g, w))
		}
	}
	r := rand.New(rand.NewPCG(9, 4))
	for _, g := range largeCores() {
		for range 20 {
			w := randomLetters(r, g.Rank, r.IntN(30))
			checkContains(t, g, w, wantContains(g, w))
		}
	}
}

func TestContainsExamples(t *testing.T) {
	for _, c := range []struct {
		rank       int
		generators string
		w          string
		want       bool
	}{
		{2, "ab,aB", "1", true}, {2, "ab,aB", "ab", true}, {2, "ab,aB", "BA", true}, {2, "ab,aB", "bb", true}, {2, "ab,aB", "abaB", true},
		// The empty word and words that reduce to it are in every subgroup.
		{2, "none", "1", true}, {2, "none", "aA", true}, {2, "none", "abBA", true}, {2, "none", "cC", true}, {2, "a", "bB", true},
		// Words that lead from the base to another vertex, some of them after they were at the base.
		{2, "ab,aB", "a", false}, {2, "ab,aB", "B", false}, {2, "ab,aB", "aba", false}, {2, "ab,aB", "abab", true}, {2, "ab,aB", "ababb", false}, {2, "ab,aB", "ababB", false}, {2, "aa", "a", false}, {2, "aa", "A", false}, {2, "aa", "aaa", false}, {1, "aaa", "aa", false}, {2, "abA", "ab", false}, {2, "abA", "a", false}, {2, "abA", "abb", false},
		// Words that cannot be read to their end, from the first letter, from a later one and from the last one on.
		{2, "ab,aB", "ba", false}, {2, "ab,aB", "aa", false}, {2, "ab,aB", "abA", false}, {2, "ab,aB", "ababA", false}, {2, "ab,aB", "abba", false}, {2, "none", "a", false}, {2, "none", "bab", false}, {2, "a", "b", false}, {2, "a", "aab", false}, {2, "a", "aba", false}, {2, "a", "abA", false}, {2, "abA", "b", false}, {2, "abA", "abAb", false}, {2, "abA", "abAabAA", false},
		// Words with letters beyond the rank.
		{2, "a,b", "c", false}, {2, "a,b", "abC", false}, {2, "a,b", "acb", false}, {1, "a", "b", false}, {1, "a", "aBa", false}, {1, "a", "c", false}, {3, "a,b", "c", false},
		{2, "a,b", "cC", true}, {2, "a,b", "acCb", true}, {2, "ab", "acCb", true}, {2, "ab", "Cabc", false}, {2, "ab", "cabC", false}, {1, "aa", "abBa", true}, {1, "aa", "abcCBa", true}, {1, "aa", "abcBCa", false},
		// Words that are not reduced: as written, some of them could not be read, and others would lead elsewhere.
		{2, "ab,aB", "abBb", true}, {2, "ab,aB", "bBab", true}, {2, "ab,aB", "aAab", true}, {2, "ab,aB", "abaAAa", true}, {2, "ab,aB", "abbBB", false}, {2, "a", "abBa", true}, {2, "a", "bBBb", true}, {2, "abA", "aabbBAA", false}, {2, "abA", "aaAbbBA", true},
	} {
		checkContains(t, generatedBy(c.rank, c.generators), word(c.w), c.want)
	}
}

// Contains reduces a list first, so that it makes no difference whether it is reduced; nor do neighbours that are inverse to each other, of letters beyond the rank and of other numbers too.
func TestListsThatAreNotReduced(t *testing.T) {
	for _, g := range slices.Concat(everyNth(smallCores(2, 2), 3), largeCores()[:8]) {
		for _, w := range everyNth(listsToTest(), 7) {
			want := impl.Contains(g, wantReduced(w))
			checkContains(t, g, w, want)
			for _, n := range []int{1, -2, 3, -3, 4, 97, 1 << 32, math.MaxInt, -math.MaxInt} {
				for _, i := range []int{0, len(w) / 2, len(w)} {
					checkContains(t, g, slices.Insert(slices.Clone(w), i, n, -n), want)
				}
			}
		}
	}
	// 0 and the least int are inverse to no letter, and no letter of any rank.
	for rank := 1; rank <= 3; rank++ {
		for _, w := range [][]int{{0}, {0, 0}, {math.MinInt}, {math.MinInt, math.MinInt}, {1, 0, 0, -1}, {1, math.MinInt, math.MinInt, -1}, {rank + 1}, {-rank - 1}, {rank + 1, rank + 1}, {1<<32 + 1}, {1 - 1<<32}} {
			checkContains(t, wantWhole(rank), w, false)
			checkContains(t, wantWhole(rank), slices.Concat(w, []int{1}), false)
		}
	}
	// Long lists.
	for _, c := range []struct {
		w    []int
		want bool
	}{
		{slices.Repeat([]int{1, 2}, 100000), true}, {append(slices.Repeat([]int{1, 2}, 100000), 1), false}, {slices.Repeat([]int{3, -3}, 100000), true}, {append(slices.Repeat([]int{2}, 100000), slices.Repeat([]int{-2}, 100000)...), true}, {slices.Repeat([]int{1}, 100000), false},
	} {
		if got := impl.Contains(generatedBy(2, "ab,aB"), c.w); got != c.want {
			t.Errorf("Contains of %d letters is %t", len(c.w), got)
		}
	}
}

func TestContainsAll(t *testing.T) {
	for _, c := range []struct {
		generators string
		l          [][]int
		want       bool
	}{
		{"ab,aB", nil, true}, {"ab,aB", [][]int{}, true}, {"none", nil, true}, {"a,b", nil, true}, {"abA", nil, true},
		{"ab,aB", [][]int{nil}, true}, {"ab,aB", [][]int{{}, nil}, true}, {"none", [][]int{nil, {}}, true},
		{"ab,aB", words("ab,bb"), true}, {"ab,aB", words("ab,b"), false}, {"ab,aB", words("b,ab"), false}, {"ab,aB", words("ab,b,bb"), false}, {"ab,aB", words("b"), false}, {"ab,aB", words("1,a"), false}, {"ab,aB", words("a,1"), false}, {"none", words("1,a"), false}, {"none", words("aA,1"), true},
		{"a,b", words("a,c"), false}, {"a,b", words("c,a"), false}, {"a,b", words("acCb,a"), true}, {"a", words("a,aa,bB,AAA"), true}, {"a", words("a,aa,bA,AAA"), false},
		// More words, and longer ones, than a list of generators may have.
		{"ab,aB", slices.Repeat(words("ab,bb,aB,aa"), 500), false}, {"ab,aB", slices.Repeat(words("ab,bb,aB,BA"), 500), true}, {"ab,aB", append(slices.Repeat(words("ab,bb"), 1000), word("a")), false}, {"ab,aB", [][]int{slices.Repeat(word("ab"), 50)}, true},
	} {
		if got := impl.ContainsAll(generatedBy(2, c.generators), c.l); got != c.want {
			t.Errorf("ContainsAll(%s, %v) = %t", c.generators, c.l, got)
		}
	}
	r := rand.New(rand.NewPCG(9, 5))
	for _, g := range slices.Concat(everyNth(smallCores(2, 3), 3), everyNth(noCores(), 5)) {
		for range 10 {
			var l [][]int
			want := wantIsCore(g)
			for range r.IntN(4) {
				w := randomLetters(r, 2, r.IntN(5))
				l = append(l, w)
				want = want && wantContains(g, w)
			}
			if got := impl.ContainsAll(g, l); got != want {
				t.Errorf("ContainsAll(%v, %v) = %t", g, l, got)
			}
		}
	}
}

// A graph that is no core is no subgroup and contains nothing, not even the empty word, and has no part in any other.
func TestGraphsThatAreNoSubgroups(t *testing.T) {
	cores := slices.Concat(smallCores(1, 2), everyNth(smallCores(2, 2), 3), smallCores(3, 1))
	for _, g := range noCores() {
		if impl.IsSubgroup(g) || impl.IsTrivial(g) || impl.IsWhole(g) {
			t.Errorf("%d vertices, rank %d, %d edges: a subgroup: %t, trivial: %t, whole: %t", g.Size, g.Rank, len(g.Edges), impl.IsSubgroup(g), impl.IsTrivial(g), impl.IsWhole(g))
		}
		for _, w := range [][]int{nil, {}, {1}, {-1}, {2}, {1, -1}, {1, 2}, {1, 1}, {3}, {0}, {math.MinInt}} {
			checkContains(t, g, w, false)
		}
		for _, l := range [][][]int{nil, {}, {nil}, {nil, {}}, {{1}}, {{1}, {2}}, {{1, -1}, {2, -2}}} {
			if impl.ContainsAll(g, l) {
				t.Errorf("%d vertices, rank %d, %d edges: ContainsAll(%v) is true", g.Size, g.Rank, len(g.Edges), l)
			}
		}
		if impl.IsInside(g, g) {
			t.Errorf("%d vertices, rank %d, %d edges: IsInside is true", g.Size, g.Rank, len(g.Edges))
		}
		for _, core := range cores {
			if impl.IsInside(g, core) || impl.IsInside(core, g) {
				t.Errorf("%d vertices, rank %d, %d edges: IsInside is true with %v", g.Size, g.Rank, len(g.Edges), core)
			}
		}
	}
}

func TestIsSubgroup(t *testing.T) {
	for _, g := range slices.Concat(smallGraphs(), everyNth(foldedGraphs(2, 3), 3), foldedGraphs(1, 4), everyNth(foldedGraphs(3, 2), 3), unfoldedGraphs(), largeFoldedGraphs(), largeCores(), limitGraphs(), noCores()) {
		if got, want := impl.IsSubgroup(g), wantIsCore(g); got != want {
			t.Errorf("IsSubgroup(%v) = %t", g, got)
		}
	}
	for _, l := range sampleLists() {
		if g, ok := impl.SubgroupOf(2, l); ok != impl.IsSubgroup(g) {
			t.Errorf("SubgroupOf(2, %v) = %v, %t, a subgroup: %t", l, g, ok, impl.IsSubgroup(g))
		}
	}
}

// The loops of a core with up to 3 vertices are products of those with up to 5 letters, so that these tell exactly what lies inside what.
func TestIsInsideExactly(t *testing.T) {
	for _, c := range []struct {
		rank  int
		size  int
		every int
	}{{1, 3, 1}, {2, 2, 1}, {2, 3, 3}, {3, 2, 7}} {
		cores := everyNth(smallCores(c.rank, c.size), c.every)
		tests := reducedWords(c.rank, 2*c.size-1)
		contained := make([][]bool, len(cores))
		for i, g := range cores {
			for _, w := range tests {
				end, ok := wantWalk(g, 0, w)
				contained[i] = append(contained[i], ok && end == 0)
			}
		}
		for i, a := range cores {
			for k, b := range cores {
				want := true
				for n, isThere := range contained[i] {
					want = want && (!isThere || contained[k][n])
				}
				checkIsInside(t, a, b, want)
				if impl.IsInside(a, b) && impl.IsInside(b, a) != (i == k) {
					t.Errorf("%v and %v lie inside each other: %t", a, b, impl.IsInside(b, a))
				}
			}
		}
	}
}

func TestIsInsideExamples(t *testing.T) {
	for _, c := range []struct {
		rank int
		a    string
		b    string
		want bool
		back bool
	}{
		// Equal ones.
		{2, "ab,aB", "ab,bb", true, true}, {2, "none", "1", true, true}, {1, "aa", "AA", true, true}, {2, "a,ab", "a,b", true, true}, {2, "abA", "abbA,abbbA", true, true}, {3, "ab,bc", "ab,abbc", true, true},
		// One inside the other.
		{2, "abab", "ab,aB", true, false}, {2, "ab", "ab,aB", true, false}, {2, "ab,aB", "a,b", true, false}, {2, "aaaa", "aa", true, false}, {1, "aaaaaa", "aaa", true, false}, {2, "aa,bb", "a,b", true, false}, {2, "aa,bb", "aa,bb,ab", true, false}, {2, "abA", "a,b", true, false}, {2, "abA", "b,aa,abA", true, false}, {2, "abA,aabAA", "b,aa,abA", true, false}, {2, "abA,aaabAAA", "b,aa,abA", true, false},
		{2, "aa,bb,baBA,abaB,abbA", "aa,ab,aB", true, false}, {2, "aa,bb,baBA,abaB,abbA", "b,aa,abA", true, false}, {3, "a", "a,c", true, false}, {3, "ab,bc,ca", "a,b,c", true, false}, {2, "none", "a", true, false}, {2, "none", "abA", true, false}, {2, "abbA", "abA", true, false}, {2, "abA,aabAA", "a,b", true, false},
		// Neither inside the other: they have the same graph without its letters, the same vertices, words in common, or no words in common.
		{2, "a", "b", false, false}, {2, "aa", "bb", false, false}, {2, "ab", "ba", false, false}, {2, "aa", "aaa", false, false}, {1, "aaaa", "aaaaaa", false, false}, {2, "abA", "b", false, false}, {2, "abA", "a", false, false}, {2, "abA", "Aba", false, false}, {2, "ab,aB", "aa,b", false, false}, {2, "aa,ab,aB", "b,aa,abA", false, false}, {2, "ab", "aB", false, false}, {3, "a,b", "b,c", false, false}, {2, "a,bb", "aa,b", false, false}, {2, "aab", "aa,b", true, false}, {2, "aab", "aa,bb", false, false},
		// A word of one leads to the base of the other through too few or too many vertices.
		{2, "aaab", "aab", false, false}, {2, "aab,b", "ab,b", true, false}, {2, "aaab,b", "aab,b", false, false}, {2, "abab,ba", "ab,ba", true, false}, {2, "abab,bb", "ab,bb", true, false}, {2, "abab,baba", "ab,ba", true, false},
	} {
		a, b := generatedBy(c.rank, c.a), generatedBy(c.rank, c.b)
		checkIsInside(t, a, b, c.want)
		checkIsInside(t, b, a, c.back)
	}
}

// A subgroup lies inside another one exactly if that one contains its generators.
func TestInsideIfGeneratorsAreContained(t *testing.T) {
	r := rand.New(rand.NewPCG(9, 6))
	for i := range 300 {
		rank := i%3 + 1
		var l, m [][]int
		for range r.IntN(maxWords + 1) {
			l = append(l, wantReduced(randomLetters(r, rank, r.IntN(7))))
		}
		a, _ := impl.SubgroupOf(rank, l)
		for range 1 + r.IntN(3) {
			var w []int
			for range r.IntN(3) {
				if len(l) > 0 {
					w = wantProduct(w, l[r.IntN(len(l))])
				}
			}
			m = append(m, w)
		}
		if r.IntN(3) == 0 {
			m[0] = wantReduced(randomLetters(r, rank, r.IntN(5)))
		}
		b, ok := impl.SubgroupOf(rank, m)
		if !ok {
			continue
		}
		checkIsInside(t, b, a, impl.ContainsAll(a, m))
		checkIsInside(t, a, b, impl.ContainsAll(b, l))
		checkIsInside(t, a, a, true)
		checkIsInside(t, b, wantWhole(rank), true)
		checkIsInside(t, graphOf(rank, 1), a, true)
	}
}

// Lying inside is passed on, and what a subgroup contains is contained in all in which it lies.
func TestInsideIsPassedOn(t *testing.T) {
	cores := everyNth(smallCores(2, 3), 13)
	for _, a := range cores {
		for _, b := range cores {
			if !impl.IsInside(a, b) {
				continue
			}
			for _, w := range wantLoops(a, 0, 4) {
				checkContains(t, b, w, true)
			}
			for _, c := range cores {
				if impl.IsInside(b, c) && !impl.IsInside(a, c) {
					t.Errorf("%v lies inside %v, but not inside %v", a, b, c)
				}
			}
		}
	}
}

func TestInsideLargeSubgroups(t *testing.T) {
	cores := largeCores()
	for _, a := range cores {
		checkIsInside(t, a, a, true)
		for _, b := range everyNth(cores, 9) {
			checkIsInside(t, a, b, wantIsInside(a, b))
		}
	}
	for n := 1; n <= maxVertices; n++ {
		a := wantCoreGraph(ringGraph(n, 1))
		for _, m := range []int{1, 2, 3, 7, 13, 20, 39, 40} {
			b := wantCoreGraph(ringGraph(m, 1))
			checkIsInside(t, a, b, n%m == 0)
		}
	}
	// Rings of several letters, of which the sums must be multiples of what the base comes back after.
	for _, c := range []struct {
		a    graph
		b    graph
		want bool
	}{
		{ringGraph(40, 1, 1, 1), ringGraph(20, 1, 1, 1), true}, {ringGraph(40, 1, 7, 39), ringGraph(8, 1, 7, 7), true}, {ringGraph(40, 1, 7, 39), ringGraph(8, 1, 7, 1), false}, {ringGraph(36, 1, 2, 3), ringGraph(12, 1, 2, 3), true}, {ringGraph(36, 1, 2, 3), ringGraph(12, 1, 2, 4), false}, {ringGraph(30, 1, 2), ringGraph(20, 1, 2), false},
	} {
		a, b := wantCoreGraph(c.a), wantCoreGraph(c.b)
		checkIsInside(t, a, b, c.want)
		checkIsInside(t, b, a, false)
	}
	// The longest tail, and one letter less or more on it.
	tail := func(n int) graph { return generatedBy(2, strings.Repeat("a", n)+"b"+strings.Repeat("A", n)) }
	for n := range 12 {
		for m := range 12 {
			checkIsInside(t, tail(n), tail(m), n == m)
		}
	}
}

// No subgroup lies inside one of another rank, though its words may be words there.
func TestSubgroupsOfDifferentRanks(t *testing.T) {
	for _, c := range []struct {
		s    string
		rank int
	}{{"none", 1}, {"1", 1}, {"a", 1}, {"aa", 1}, {"aaa,aa", 1}, {"ab", 2}, {"a,b", 2}, {"abA", 2}, {"ab,aB", 2}} {
		for i := c.rank; i <= 3; i++ {
			for k := c.rank; k <= 3; k++ {
				a, _ := impl.SubgroupOf(i, listed(c.s))
				b, _ := impl.SubgroupOf(k, listed(c.s))
				checkIsInside(t, a, b, i == k)
				checkIsInside(t, a, wantWhole(k), i == k)
				checkIsInside(t, graphOf(i, 1), b, i == k)
			}
		}
	}
	ones, twos, threes := smallCores(1, 2), everyNth(smallCores(2, 2), 3), everyNth(smallCores(3, 1), 2)
	for _, a := range ones {
		for _, b := range slices.Concat(twos, threes) {
			checkIsInside(t, a, b, false)
			checkIsInside(t, b, a, false)
		}
	}
	for _, a := range twos {
		for _, b := range threes {
			checkIsInside(t, a, b, false)
			checkIsInside(t, b, a, false)
		}
	}
}

func TestTrivialSubgroupAndWholeGroup(t *testing.T) {
	for _, rank := range sampleRanks() {
		trivial, isTrivial := impl.TrivialSubgroup(rank)
		whole, isWhole := impl.WholeGroup(rank)
		if rank < 1 || rank > 3 {
			checkGraph(t, trivial, isTrivial, graph{}, false, "TrivialSubgroup", rank)
			checkGraph(t, whole, isWhole, graph{}, false, "WholeGroup", rank)
			continue
		}
		checkGraph(t, trivial, isTrivial, graphOf(rank, 1), true, "TrivialSubgroup", rank)
		checkGraph(t, whole, isWhole, wantWhole(rank), true, "WholeGroup", rank)
		if !impl.IsTrivial(trivial) || impl.IsTrivial(whole) || impl.IsWhole(trivial) || !impl.IsWhole(whole) || !impl.IsSubgroup(trivial) || !impl.IsSubgroup(whole) {
			t.Errorf("rank %d: trivial %t, %t, whole %t, %t", rank, impl.IsTrivial(trivial), impl.IsTrivial(whole), impl.IsWhole(trivial), impl.IsWhole(whole))
		}
		checkIsInside(t, trivial, whole, true)
		checkIsInside(t, whole, trivial, false)
		for _, w := range reducedWords(rank, 4) {
			checkContains(t, trivial, w, len(w) == 0)
			checkContains(t, whole, w, true)
		}
		// The letters, or their inverses, generate the whole group.
		for _, s := range [][]string{{"a", "a,b", "a,b,c"}, {"A", "B,A", "C,aB,A"}} {
			g, ok := impl.SubgroupOf(rank, words(s[rank-1]))
			checkGraph(t, g, ok, whole, true, "SubgroupOf", rank, s)
		}
		for _, g := range everyNth(smallCores(rank, 2), 2) {
			checkIsInside(t, trivial, g, true)
			checkIsInside(t, g, whole, true)
			checkIsInside(t, g, trivial, impl.IsTrivial(g))
			checkIsInside(t, whole, g, impl.IsWhole(g))
		}
	}
}

// Of all graphs, only those two for each rank are the trivial subgroup and the whole group.
func TestIsTrivialAndIsWhole(t *testing.T) {
	for _, g := range slices.Concat(smallGraphs(), everyNth(foldedGraphs(2, 3), 3), largeFoldedGraphs(), unfoldedGraphs(), limitGraphs(), noCores(), differentGraphs()) {
		isRank := g.Rank >= 1 && g.Rank <= 3
		if got, want := impl.IsTrivial(g), isRank && wantEqualGraphs(g, graphOf(g.Rank, 1)); got != want {
			t.Errorf("IsTrivial(%v) = %t", g, got)
		}
		if got, want := impl.IsWhole(g), isRank && wantEqualGraphs(g, wantWhole(g.Rank)); got != want {
			t.Errorf("IsWhole(%v) = %t", g, got)
		}
	}
	// Graphs that are nearly these.
	a, b, c := edge(0, 1, 0), edge(0, 2, 0), edge(0, 3, 0)
	for _, g := range []graph{
		{}, graphOf(0, 1), graphOf(-1, 1), graphOf(4, 1), graphOf(2, 0), graphOf(2, -1), graphOf(2, 2), graphOf(1, maxVertices), graphOf(0, 0), graphOf(1, 0),
		graphOf(2, 1, a), graphOf(2, 1, b), graphOf(3, 1, a, b), graphOf(3, 1, a, c), graphOf(3, 1, b, c), graphOf(3, 1, c), graphOf(2, 2, edge(0, 1, 1)),
		graphOf(2, 1, b, a), graphOf(3, 1, a, c, b), graphOf(2, 1, a, a), graphOf(2, 1, a, b, b), graphOf(1, 1, a, a), graphOf(1, 1, a, b), graphOf(2, 1, a, b, c), graphOf(4, 1, a, b, c, edge(0, 4, 0)), graphOf(0, 1, a),
		graphOf(2, 0, a, b), graphOf(2, 2, a, b), graphOf(1, 2, a), graphOf(1, 2, edge(1, 1, 1)), graphOf(2, 1, edge(0, -1, 0), b), graphOf(2, 1, a, edge(0, 2, 1)), graphOf(2, 1, edge(0, 0, 0), a),
		drawn("2 2 0a0 0b1 1a1 1b0"), drawn("2 2 0a1 0b1 1a0 1b0"), drawn("1 2 0a1 1a0"), drawn("2 2 0a0 0b0 1a1 1b1"), drawn("2 2 0a0 0a1 0b0"), drawn("2 2 0a0 0b0 1a0"),
	} {
		if impl.IsTrivial(g) || impl.IsWhole(g) {
			t.Errorf("%v is trivial: %t, whole: %t", g, impl.IsTrivial(g), impl.IsWhole(g))
		}
	}
}

// Lists with nothing in them are treated alike, whether they are nil or empty.
func TestSubgroupsWithEmptyLists(t *testing.T) {
	for _, edges := range [][]impl.Edge{nil, {}} {
		g := graph{Rank: 2, Size: 1, Edges: edges}
		if !impl.IsSubgroup(g) || !impl.IsTrivial(g) || impl.IsWhole(g) || !impl.ContainsAll(g, nil) || !impl.ContainsAll(g, [][]int{}) {
			t.Errorf("%v is not taken for the trivial subgroup", g)
		}
		checkContains(t, g, nil, true)
		checkContains(t, g, []int{}, true)
		for _, others := range [][]impl.Edge{nil, {}} {
			checkIsInside(t, g, graph{Rank: 2, Size: 1, Edges: others}, true)
		}
		checkIsInside(t, g, wantWhole(2), true)
	}
}

// Arguments keep their elements and unused capacity, and a change to a result changes no argument and no later result.
func TestSubgroupsShareNoMemory(t *testing.T) {
	for _, original := range slices.Concat(everyNth(sampleLists(), 7), [][][]int{nil, {nil}}) {
		l, memory, letters := wordsWithRoom(original)
		wantMemory, wantLetters := slices.Clone(memory), slices.Clone(letters)
		want, wantOk := wantSubgroup(3, original)
		for range 2 {
			got, ok := impl.SubgroupOf(3, l)
			checkGraph(t, got, ok, want, wantOk, "SubgroupOf", original)
			overwrittenGraph(got)
		}
		impl.ContainsAll(want, l)
		impl.ContainsAll(wantWhole(3), l)
		checkList(t, letters, wantLetters, "letters", original)
		if !equalLists(memory, wantMemory) {
			t.Errorf("the words of %v have changed to %v", original, memory)
		}
	}
	for _, original := range slices.Concat(everyNth(smallCores(2, 3), 5), largeCores(), invalidGraphs(), unfoldedGraphs()) {
		g, memory := graphWithRoom(original)
		w, memoryOfW := withRoom([]int{1, 2, -2, 3, -3, 1})
		wantMemory, wantLetters := slices.Clone(memory), slices.Clone(memoryOfW)
		impl.IsSubgroup(g)
		impl.Contains(g, w)
		impl.ContainsAll(g, [][]int{w, w[:2], w[2:]})
		impl.IsInside(g, g)
		impl.IsInside(g, wantWhole(2))
		impl.IsInside(graphOf(2, 1), g)
		impl.IsTrivial(g)
		impl.IsWhole(g)
		if !slices.Equal(memory, wantMemory) {
			t.Errorf("the edges of %v have changed to %v", original, memory)
		}
		checkList(t, memoryOfW, wantLetters, "letters", original)
	}
	for rank := 1; rank <= 3; rank++ {
		for range 2 {
			trivial, _ := impl.TrivialSubgroup(rank)
			whole, _ := impl.WholeGroup(rank)
			checkGraph(t, trivial, true, graphOf(rank, 1), true, "TrivialSubgroup", rank)
			checkGraph(t, whole, true, wantWhole(rank), true, "WholeGroup", rank)
			overwrittenGraph(trivial)
			overwrittenGraph(whole)
		}
	}
}

// Calls at the same time have no state in common, even for the same words and graphs.
func TestSubgroupsAtTheSameTime(t *testing.T) {
	cores := everyNth(largeCores(), 4)
	lists := everyNth(sampleLists(), 9)
	var inside [8][]bool
	var generated [8][]graph
	var group sync.WaitGroup
	for i := range inside {
		group.Go(func() {
			for _, a := range cores {
				for _, b := range cores {
					inside[i] = append(inside[i], impl.IsInside(a, b), impl.Contains(a, []int{1, 1}))
				}
			}
			for _, l := range lists {
				g, _ := impl.SubgroupOf(2, l)
				generated[i] = append(generated[i], g)
			}
		})
	}
	group.Wait()
	for i := range inside {
		if !slices.Equal(inside[i], inside[0]) || !slices.EqualFunc(generated[i], generated[0], wantEqualGraphs) {
			t.Errorf("calls at the same time differ: %d", i)
		}
	}
	for k, l := range lists {
		want, _ := wantSubgroup(2, l)
		checkGraph(t, generated[0][k], true, want, true, "SubgroupOf", l)
	}
}
