package tests

import (
	"fmt"
	"math"
	"math/rand/v2"
	"slices"
	"strings"
	"sync"
	"testing"

	"loop.example/g02075/impl"
)

// Promise 5, as far as chapter 11 goes: the basis of a subgroup generates it freely, its rank is the number of edges outside the tree, and words are rewritten in it and expanded again.
// The wanted results are computed here in the plainest way: the basis from shortest words, products one factor after the other. A rewritten word needs no other computation, since in a free basis it has one reduced expression only.

const maxFactors = 200

func wantBasis(g graph) [][]int {
	if !wantIsCore(g) {
		return nil
	}
	words := wantTreeWords(g)
	var basis [][]int
	for _, e := range g.Edges {
		if !endsWord(words, e) {
			basis = append(basis, wantLoopOf(words, e))
		}
	}
	return basis
}

// wantExpand multiplies by one named word after the other, however many there are.
func wantExpand(basis [][]int, l []int) []int {
	var product []int
	for _, n := range l {
		for i, w := range basis {
			if n == i+1 {
				product = wantProduct(product, w)
			} else if n == -(i + 1) {
				product = wantProduct(product, wantInvert(w))
			}
		}
	}
	return product
}

func wantIsFreeBasis(rank int, l [][]int) bool {
	g, ok := wantSubgroup(rank, l)
	return ok && wantRank(g) == len(l)
}

func wantGeneratesAll(g graph, l [][]int) bool {
	h, ok := wantSubgroup(g.Rank, l)
	return ok && wantIsCore(g) && wantEqualGraphs(h, g)
}

func wantFormatIndices(l []int) string {
	if len(l) == 0 {
		return "none"
	}
	return strings.Trim(fmt.Sprint(l), "[]")
}

// indices returns all reduced lists of up to most of the numbers that name elements of a basis.
func indices(count int, most int) [][]int {
	var numbers []int
	for i := 1; i <= count; i++ {
		numbers = append(numbers, i, -i)
	}
	return slices.DeleteFunc(listsOver(numbers, most), func(l []int) bool { return !isReduced(l) })
}

// strangeIndices returns numbers that name no element of a basis.
func strangeIndices(count int) []int {
	return []int{0, count + 1, -count - 1, count + 2, -count - 2, maxFactors, -maxFactors - 1, 1<<32 + 1, -(1<<32 + 1), 1 << 32, math.MaxInt, -math.MaxInt, math.MinInt + 2, math.MinInt}
}

func checkWords(t *testing.T, got [][]int, want [][]int, call string, args ...any) {
	t.Helper()
	if !equalLists(got, want) {
		t.Errorf("%s of %v = %v, want %v", call, args, got, want)
	}
}

func checkFree(t *testing.T, rank int, l [][]int, want bool) {
	t.Helper()
	if got := impl.IsFreeBasis(rank, l); got != want {
		t.Errorf("IsFreeBasis(%d, %v) = %t", rank, l, got)
	}
}

func checkGenerates(t *testing.T, g graph, l [][]int, want bool) {
	t.Helper()
	if got := impl.GeneratesAll(g, l); got != want {
		t.Errorf("GeneratesAll(%v, %v) = %t", g, l, got)
	}
}

// checkRewrite expects, for a list of letters, the only reduced list of numbers that expands to it.
func checkRewrite(t *testing.T, g graph, basis [][]int, w []int) {
	t.Helper()
	l, ok := impl.RewriteIn(g, w)
	if !wantContains(g, w) {
		checkNotRewritten(t, g, w)
		return
	}
	if !ok || !isReduced(l) || slices.ContainsFunc(l, func(n int) bool { return n == 0 || n > len(basis) || n < -len(basis) }) {
		t.Errorf("RewriteIn(%v, %v) = %v, %t", g, w, l, ok)
		return
	}
	checkList(t, wantExpand(basis, l), wantReduced(w), "the product of RewriteIn", g, w, l)
	if len(l) <= maxFactors {
		checkList(t, impl.ExpandBy(impl.BasisOf(g), l), wantReduced(w), "ExpandBy of RewriteIn", g, w, l)
	}
}

func checkNotRewritten(t *testing.T, g graph, w []int) {
	t.Helper()
	if l, ok := impl.RewriteIn(g, w); ok || len(l) != 0 {
		t.Errorf("RewriteIn with rank %d, %d vertices, %d edges and the word %v is %v, %t", g.Rank, g.Size, len(g.Edges), w, l, ok)
	}
}

func checkExpand(t *testing.T, basis [][]int, l []int) {
	t.Helper()
	checkList(t, impl.ExpandBy(basis, l), wantExpand(basis, l[:min(len(l), maxFactors)]), "ExpandBy", basis, l)
}

// wordsOf returns words of a subgroup, reduced, by products of elements of its basis.
func wordsOf(r *rand.Rand, basis [][]int, n int) [][]int {
	var l [][]int
	for range n {
		if len(basis) > 0 {
			l = append(l, wantExpand(basis, randomLetters(r, len(basis), r.IntN(12))))
		}
	}
	return l
}

// blown returns a list of letters that reduces to w, with pairs of inverse letters between its own.
func blown(r *rand.Rand, rank int, w []int) []int {
	w = slices.Clone(w)
	for range 1 + r.IntN(6) {
		letter := randomLetters(r, rank, 1)[0]
		w = slices.Insert(w, r.IntN(len(w)+1), letter, -letter)
	}
	return w
}

// elementsToTest returns bases, and other lists of letters, with empty and repeated ones and numbers that are no letters among them.
func elementsToTest() [][][]int {
	l := [][][]int{
		nil, {nil}, {{}, nil}, words("a"), words("ab,aB"), words("bA,ab"), words("1,a,1"), words("a,a,A"), words("ab,c"), words("aA,abB,bBa"), words("abAB,bABa,c"),
		{{0}}, {{0, 0}, {1, 0, -1}}, {{math.MinInt}}, {{math.MinInt, 5}, {5, -5, 7}}, {{math.MaxInt}, {-math.MaxInt}}, {{9, -9, 1}, {-1}}, {longWord(25)}, {longWord(200), longWord(50)}, {{1, 2, -2, -1}, {3}},
	}
	l = append(l, slices.Repeat([][]int{{1}}, 7), slices.Repeat([][]int{{1, 2}}, 250))
	for _, g := range everyNth(coresToTest(), 9) {
		l = append(l, wantBasis(g))
	}
	return l
}

func TestBasisOf(t *testing.T) {
	for _, g := range coresToTest() {
		basis := impl.BasisOf(g)
		checkWords(t, basis, wantBasis(g), "BasisOf", g)
		if n := impl.RankOf(g); len(basis) != n || len(impl.ExtraEdges(g)) != n {
			t.Errorf("BasisOf(%v) has %d elements, the rank is %d", g, len(basis), n)
		}
		for i, e := range impl.ExtraEdges(g) {
			checkList(t, basis[i], impl.LoopOf(g, e), "an element of BasisOf", g, e)
		}
		for _, w := range basis {
			if len(w) == 0 || !isReduced(w) || !impl.Contains(g, w) || !wantContains(g, w) {
				t.Errorf("BasisOf(%v) has %v", g, w)
			}
		}
		if !impl.ContainsAll(g, basis) {
			t.Errorf("%v does not contain its basis %v", g, basis)
		}
	}
	for _, l := range everyNth(sampleLists(), 3) {
		if g, ok := wantSubgroup(3, l); ok {
			checkWords(t, impl.BasisOf(g), wantBasis(g), "BasisOf", g)
		}
	}
}

func TestBasisExamples(t *testing.T) {
	for _, c := range []struct {
		g    string
		want string
	}{
		{"2 2 0a1 0b1 1b0", "bA,ab"}, {"2 2 0a1 0b0 1a0 1b1", "b,aa,abA"}, {"2 3 0a1 1b2 2a0", "aba"}, {"1 3 0a1 1a2 2a0", "aaa"}, {"2 4 0a1 1b3 2b0 3a2", "abab"}, {"2 2 0a1 1b1", "abA"}, {"3 2 0c1 1b0", "cb"},
		{"2 4 0a1 0b2 1a0 1b3 2a3 2b0 3a2 3b1", "aa,baBA,bb,abaB,abbA"}, {"3 4 0a1 0b3 0c2 1b0 2a0 3c0", "ca,ab,bc"},
		{"2 2 0b1 1a0 1b0", "ba,Ab"}, {"3 2 0a1 0b1 0c1 1a0 1b0 1c0", "bA,cA,aa,ab,ac"},
	} {
		if got := wantFormatWords(impl.BasisOf(drawn(c.g))); got != c.want {
			t.Errorf("BasisOf(%s) = %s, want %s", c.g, got, c.want)
		}
	}
	for rank := 1; rank <= 3; rank++ {
		// The trivial subgroup has no elements in its basis, and the letters are that of the whole group.
		checkWords(t, impl.BasisOf(graphOf(rank, 1)), nil, "BasisOf", rank)
		checkWords(t, impl.BasisOf(wantWhole(rank)), [][]int{{1}, {2}, {3}}[:rank], "BasisOf", rank)
	}
	// The longest elements: around a ring, and to a loop at the end of the longest line and back.
	checkWords(t, impl.BasisOf(wantCoreGraph(ringGraph(maxVertices, 1))), [][]int{slices.Repeat([]int{1}, maxVertices)}, "BasisOf", "the longest ring")
	tail := lineGraph(2, maxVertices, 1)
	tail.Edges = append(tail.Edges, edge(39, 2, 39))
	there := slices.Repeat([]int{1}, 39)
	checkWords(t, impl.BasisOf(tail), [][]int{slices.Concat(there, []int{2}, wantInvert(there))}, "BasisOf", "the longest tail")
}

// Where the limits of lists of words allow it, the elements are said to generate the subgroup, and freely.
func TestBasisGeneratesTheSubgroup(t *testing.T) {
	n := 0
	for _, g := range coresToTest() {
		basis := impl.BasisOf(g)
		isList := wantAreWords(g.Rank, basis)
		checkFree(t, g.Rank, basis, isList)
		checkGenerates(t, g, basis, isList)
		if !isList {
			continue
		}
		n++
		h, ok := impl.SubgroupOf(g.Rank, basis)
		checkGraph(t, h, ok, g, true, "SubgroupOf the basis of", g)
		for i := range basis {
			// Fewer elements have a lower rank.
			fewer := slices.Delete(slices.Clone(basis), i, i+1)
			checkFree(t, g.Rank, fewer, true)
			checkGenerates(t, g, fewer, false)
			// An element that is there twice makes a list that is no basis, and the square of one makes a basis of less.
			if more := append(slices.Clone(basis), basis[i]); wantAreWords(g.Rank, more) {
				checkFree(t, g.Rank, more, false)
				checkGenerates(t, g, more, true)
			}
			squared := slices.Clone(basis)
			squared[i] = wantProduct(basis[i], basis[i])
			if wantAreWords(g.Rank, squared) {
				checkFree(t, g.Rank, squared, true)
				checkGenerates(t, g, squared, false)
			}
		}
	}
	if n < 100 {
		t.Errorf("only %d bases are lists of words", n)
	}
}

// No product of elements is empty unless the numbers cancel, and no other reduced list of numbers gives the same product.
func TestBasisIsFree(t *testing.T) {
	for _, g := range slices.Concat(smallCores(1, 3), everyNth(smallCores(2, 3), 3), everyNth(smallCores(3, 2), 9), everyNth(largeCores(), 2)) {
		basis := impl.BasisOf(g)
		most := 4 - min(len(basis)/3, 3)
		lists := indices(min(len(basis), 8), most)
		if len(basis) > 8 {
			lists = append(lists, []int{len(basis)}, []int{-len(basis), 1, len(basis)}, []int{9, -8, 9, 9})
		}
		for _, l := range lists {
			w := impl.ExpandBy(basis, l)
			if (len(w) == 0) != (len(l) == 0) {
				t.Errorf("%v expands to %v in the basis of %v", l, w, g)
			}
			got, ok := impl.RewriteIn(g, w)
			if !ok || !slices.Equal(got, l) {
				t.Errorf("RewriteIn(%v, %v) = %v, %t, want %v", g, w, got, ok, l)
			}
		}
	}
}

func TestRewriteIn(t *testing.T) {
	r := rand.New(rand.NewPCG(11, 1))
	for _, g := range coresToTest() {
		basis := wantBasis(g)
		for i, w := range basis {
			l, ok := impl.RewriteIn(g, w)
			if !ok || !slices.Equal(l, []int{i + 1}) {
				t.Errorf("RewriteIn(%v, %v) = %v, %t, want %d", g, w, l, ok, i+1)
			}
			l, ok = impl.RewriteIn(g, wantInvert(w))
			if !ok || !slices.Equal(l, []int{-i - 1}) {
				t.Errorf("RewriteIn(%v, %v) = %v, %t, want %d", g, wantInvert(w), l, ok, -i-1)
			}
		}
		for _, w := range everyNth(wantLoops(g, 0, 4), 3) {
			checkRewrite(t, g, basis, w)
		}
		for _, w := range wordsOf(r, basis, 3) {
			checkRewrite(t, g, basis, w)
			checkRewrite(t, g, basis, blown(r, g.Rank, w))
			checkRewrite(t, g, basis, blown(r, 3, w))
		}
	}
	for _, g := range everyNth(coresToTest(), 5) {
		basis := wantBasis(g)
		for _, w := range everyNth(listsToTest(), 7) {
			checkRewrite(t, g, basis, w)
		}
	}
}

func TestRewriteExamples(t *testing.T) {
	for _, c := range []struct {
		rank       int
		generators string
		w          string
		want       string
	}{
		{2, "ab,aB", "bb", "1 2"}, {2, "ab,aB", "ab", "2"}, {2, "ab,aB", "bA", "1"}, {2, "ab,aB", "aB", "-1"}, {2, "ab,aB", "BA", "-2"}, {2, "ab,aB", "BB", "-2 -1"}, {2, "ab,aB", "abab", "2 2"}, {2, "ab,aB", "aBBA", "-1 -2"}, {2, "ab,aB", "abbA", "2 1"}, {2, "ab,aB", "aBab", "-1 2"},
		{2, "ab,aB", "aAbbaAbB", "1 2"}, {2, "ab,aB", "cCbbCc", "1 2"}, {2, "ab,aB", "abcC", "2"}, {2, "a,b", "abAB", "1 2 -1 -2"}, {3, "a,b,c", "cABBc", "3 -1 -2 -2 3"}, {1, "aaa", "aaaaaa", "1 1"}, {1, "aaa", "AAA", "-1"},
		{2, "b,aa,abA", "baabaab", "1 2 1 2 1"}, {2, "b,aa,abA", "abaB", "3 2 -1"}, {2, "b,aa,abA", "BaBBAAA", "-1 -3 -3 -2"},
	} {
		g := generatedBy(c.rank, c.generators)
		l, ok := impl.RewriteIn(g, word(c.w))
		if got := wantFormatIndices(l); got != c.want || !ok {
			t.Errorf("RewriteIn of %s in %s = %s, %t, want %s", c.w, c.generators, got, ok, c.want)
		}
	}
}

// The edge case of this chapter: a word that is rewritten to nothing.
func TestWordsThatAreRewrittenToNothing(t *testing.T) {
	nothing := [][]int{nil, {}, word("aA"), word("Aa"), word("bB"), word("abBA"), word("abcCBA"), word("aAbBcC"), word("aAaAaA"), word("CbBc"), {7, -7}, {-4, 4}, {1, 9, -9, -1}, {math.MaxInt, -math.MaxInt}, slices.Repeat([]int{1, -1}, 50), slices.Concat(longWord(200), wantInvert(longWord(200)))}
	for _, g := range coresToTest() {
		for _, w := range nothing {
			l, ok := impl.RewriteIn(g, w)
			if !ok || len(l) != 0 {
				t.Errorf("RewriteIn(%v, %v) = %v, %t", g, w, l, ok)
			}
			checkList(t, impl.ExpandBy(impl.BasisOf(g), l), nil, "ExpandBy", g)
			if s := impl.FormatIndices(l); s != "none" {
				t.Errorf("the numbers of %v are %s", w, s)
			}
		}
		for _, w := range wantBasis(g) {
			if l, ok := impl.RewriteIn(g, slices.Concat(w, wantInvert(w))); !ok || len(l) != 0 {
				t.Errorf("RewriteIn(%v, %v and its inverse) = %v, %t", g, w, l, ok)
			}
		}
	}
	for _, g := range noCores() {
		// Without a subgroup, there is nothing to be rewritten to nothing.
		for _, w := range nothing[:4] {
			checkNotRewritten(t, g, w)
		}
	}
}

func TestWordsThatAreNotContained(t *testing.T) {
	r := rand.New(rand.NewPCG(11, 2))
	n := 0
	for _, g := range coresToTest() {
		basis := wantBasis(g)
		for _, w := range everyNth(reducedWords(g.Rank, 3), 5) {
			if !wantContains(g, w) {
				n++
				checkNotRewritten(t, g, w)
				checkNotRewritten(t, g, blown(r, 3, w))
				for _, v := range basis[:min(len(basis), 2)] {
					checkNotRewritten(t, g, slices.Concat(v, w))
					checkNotRewritten(t, g, slices.Concat(w, v))
				}
			}
		}
		for _, letter := range strangeLetters(g.Rank) {
			for _, w := range [][]int{{letter}, {letter, letter}, {1, letter}, {letter, -1}, {1, letter, -1}, {1, -1, letter}} {
				checkNotRewritten(t, g, w)
			}
			for _, v := range basis[:min(len(basis), 1)] {
				checkNotRewritten(t, g, slices.Concat(v, []int{letter}, v))
				checkNotRewritten(t, g, append(slices.Clone(v), letter))
			}
		}
		for _, w := range [][]int{{0, 0}, {math.MinInt, math.MinInt}, {0, 1, -1, 0}, {math.MinInt, 1, -1, math.MinInt}} {
			checkNotRewritten(t, g, w)
		}
	}
	if n < 1000 {
		t.Errorf("only %d words are not contained", n)
	}
}

// All words of known subgroups are rewritten, and no others.
func TestRewriteInKnownSubgroups(t *testing.T) {
	for _, c := range knownSubgroups() {
		g := generatedBy(c.rank, c.generators)
		basis := impl.BasisOf(g)
		for _, w := range everyNth(reducedWords(c.rank, 7-c.rank), 3) {
			l, ok := impl.RewriteIn(g, w)
			if ok != c.has(w) {
				t.Errorf("RewriteIn of %s in %s = %v, %t", wantFormatWord(w), c.generators, l, ok)
			}
			if ok {
				checkList(t, wantExpand(basis, l), w, "the product of RewriteIn", c.generators, w)
			}
		}
	}
}

// Words are rewritten as products: the product of two is rewritten to the product of their numbers, and an inverse to the inverse.
func TestRewriteProducts(t *testing.T) {
	r := rand.New(rand.NewPCG(11, 3))
	for _, g := range coresToTest() {
		l := wordsOf(r, wantBasis(g), 2)
		if len(l) < 2 {
			continue
		}
		first, _ := impl.RewriteIn(g, l[0])
		second, _ := impl.RewriteIn(g, l[1])
		product, ok := impl.RewriteIn(g, slices.Concat(l[0], l[1]))
		if !ok {
			t.Errorf("RewriteIn(%v, %v) is false", g, slices.Concat(l[0], l[1]))
		}
		checkList(t, product, wantProduct(first, second), "RewriteIn of a product", g, l)
		inverse, ok := impl.RewriteIn(g, wantInvert(l[0]))
		if !ok {
			t.Errorf("RewriteIn(%v, %v) is false", g, wantInvert(l[0]))
		}
		checkList(t, inverse, wantInvert(first), "RewriteIn of an inverse", g, l)
	}
}

// Words may be longer than MaxWord, and have more than 200 numbers, of which ExpandBy takes the first 200.
func TestLongWordsAreRewritten(t *testing.T) {
	g := generatedBy(2, "ab,aB")
	basis := wantBasis(g)
	for _, n := range []int{24, 25, 199, 200, 201, 1000} {
		checkNotRewritten(t, g, slices.Repeat(word("aabb"), n))
		l, ok := impl.RewriteIn(g, slices.Repeat(word("ab"), n))
		if !ok || !slices.Equal(l, slices.Repeat([]int{2}, n)) {
			t.Errorf("RewriteIn(%d times ab) = %v, %t", n, l, ok)
		}
		checkList(t, impl.ExpandBy(basis, l), slices.Repeat(word("ab"), min(n, maxFactors)), "ExpandBy", n)
		l, ok = impl.RewriteIn(g, slices.Repeat(word("bb"), n))
		if !ok || !slices.Equal(l, slices.Repeat([]int{1, 2}, n)) {
			t.Errorf("RewriteIn(%d times bb) = %v, %t", n, l, ok)
		}
		checkList(t, impl.ExpandBy(basis, l), slices.Repeat(word("bb"), min(n, maxFactors/2)), "ExpandBy", n)
	}
}

func TestBasesOfGraphsThatAreNoCores(t *testing.T) {
	for _, g := range noCores() {
		checkWords(t, impl.BasisOf(g), nil, "BasisOf", g.Rank, g.Size, len(g.Edges))
		for _, w := range [][]int{nil, {1}, {-1}, {2}, {1, 2}, {1, 2, -1}, {1, 1}, {0}, {3}, {math.MinInt}} {
			checkNotRewritten(t, g, w)
		}
		for _, l := range [][][]int{nil, {nil}, {{1}}, {{1}, {2}}, {{1, 1}, {2}}, {{0}}} {
			if impl.GeneratesAll(g, l) {
				t.Errorf("GeneratesAll with rank %d, %d vertices, %d edges and the words %v is true", g.Rank, g.Size, len(g.Edges), l)
			}
		}
	}
	// Even if the words generate the core of the graph, or the graph is what failing calls return.
	for _, l := range everyNth(sampleLists(), 3) {
		if f, ok := wantFlower(3, l); ok && !wantIsCore(f) {
			checkGenerates(t, f, l, false)
		}
		checkGenerates(t, graph{}, l, false)
	}
}

func TestExpandBy(t *testing.T) {
	for _, basis := range elementsToTest() {
		checkList(t, impl.ExpandBy(basis, nil), nil, "ExpandBy", basis)
		checkList(t, impl.ExpandBy(basis, []int{}), nil, "ExpandBy", basis)
		numbers := []int{1, -1, 2, -2, len(basis), -len(basis), 3, 0}
		for _, l := range listsOver(numbers, 2) {
			checkExpand(t, basis, l)
		}
		r := rand.New(rand.NewPCG(11, uint64(len(basis))))
		for range 10 {
			checkExpand(t, basis, randomLetters(r, max(len(basis), 1), r.IntN(12)))
		}
		for i, w := range basis {
			checkList(t, impl.ExpandBy(basis, []int{i + 1}), wantReduced(w), "ExpandBy", basis, i+1)
			checkList(t, impl.ExpandBy(basis, []int{-i - 1}), wantReduced(wantInvert(w)), "ExpandBy", basis, -i-1)
		}
	}
	for _, c := range []struct {
		basis string
		l     []int
		want  string
	}{
		{"ab,c", []int{1, -2, 3, 0, 2, 1}, "abab"}, {"bA,ab", []int{1, 2}, "bb"}, {"bA,ab", []int{-2, -1}, "BB"}, {"bA,ab", []int{2, 1, -1, 2}, "abab"}, {"a", []int{1, 1, -1, 1}, "aa"}, {"a,b", []int{1, 2, -1, -2}, "abAB"}, {"aA,b", []int{1, 2, 1, 2}, "bb"},
		{"none", []int{1, -1, 2}, "1"}, {"1", []int{1, -1, 1}, "1"}, {"abA", []int{1, 1, 1}, "abbbA"}, {"ab,BA", []int{1, 2, 2}, "BA"}, {"aAb", []int{1}, "b"}, {"aAb", []int{-1}, "B"},
	} {
		checkList(t, impl.ExpandBy(listed(c.basis), c.l), word(c.want), "ExpandBy", c.basis, c.l)
	}
}

// Numbers that name none are skipped, wherever they stand.
func TestNumbersThatNameNone(t *testing.T) {
	for _, basis := range elementsToTest() {
		strange := strangeIndices(len(basis))
		strange = slices.DeleteFunc(strange, func(n int) bool { return n != math.MinInt && n != 0 && max(n, -n) <= len(basis) })
		checkList(t, impl.ExpandBy(basis, strange), nil, "ExpandBy", basis, strange)
		for _, n := range strange {
			checkList(t, impl.ExpandBy(basis, []int{n}), nil, "ExpandBy", basis, n)
			for _, l := range [][]int{{1, n, 2}, {n, 1, 2}, {1, 2, n}, {n, 1, n, n, 2, n}} {
				checkList(t, impl.ExpandBy(basis, l), wantExpand(basis, []int{1, 2}), "ExpandBy", basis, l)
			}
		}
	}
}

// Of long lists, the first 200 numbers count, those that name none among them.
func TestLongListsOfNumbers(t *testing.T) {
	basis := words("a,ab,c")
	for _, n := range []int{0, 1, 198, 199, 200, 201, 202, 256, 400, 100000} {
		checkList(t, impl.ExpandBy(basis, slices.Repeat([]int{1}, n)), slices.Repeat([]int{1}, min(n, maxFactors)), "ExpandBy", n)
		checkList(t, impl.ExpandBy(basis, slices.Repeat([]int{-3}, n)), slices.Repeat([]int{-3}, min(n, maxFactors)), "ExpandBy", n)
		checkList(t, impl.ExpandBy(basis, append(slices.Repeat([]int{2, -2}, n/2), 3, 1, 3, 1)), []int{3, 1, 3, 1}[:min(max(maxFactors-n/2*2, 0), 4)], "ExpandBy", n)
		for _, strange := range []int{0, 4, -4, math.MinInt, math.MaxInt} {
			checkList(t, impl.ExpandBy(basis, append(slices.Repeat([]int{strange}, n), 1, 3)), []int{1, 3}[:min(max(maxFactors-n, 0), 2)], "ExpandBy", n, strange)
			checkList(t, impl.ExpandBy(basis, append(slices.Repeat([]int{1}, n), strange, 3)), append(slices.Repeat([]int{1}, min(n, maxFactors)), []int{3}[:min(max(maxFactors-n-1, 0), 1)]...), "ExpandBy", n, strange)
		}
	}
	// Words that cancel take their places all the same, and long ones are multiplied in full.
	checkList(t, impl.ExpandBy([][]int{longWord(200)}, slices.Repeat([]int{1}, 300)), wantReduced(slices.Repeat(longWord(200), maxFactors)), "ExpandBy", "long words")
	checkList(t, impl.ExpandBy(slices.Repeat([][]int{{1}, {2}}, 500), append(slices.Repeat([]int{1000, -999}, 99), 1000, 999, 998)), append(slices.Repeat([]int{2, -1}, 99), 2, 1), "ExpandBy", "many elements")
}

func TestIsFreeBasis(t *testing.T) {
	for _, rank := range sampleRanks() {
		for _, l := range everyNth(sampleLists(), 2) {
			checkFree(t, rank, l, wantIsFreeBasis(rank, l))
		}
	}
	for _, c := range []struct {
		rank int
		l    string
		want bool
	}{
		{2, "ab,aB", true}, {2, "a,b", true}, {2, "a,ab", true}, {2, "none", true}, {1, "none", true}, {3, "none", true}, {2, "a", true}, {2, "aa,bb", true}, {2, "aa,bb,ab", true}, {2, "b,abA,aabAA", true}, {2, "abAB,a", true}, {3, "ab,bc,ca", true}, {3, "aa,ab,ac,aB,aC", true}, {2, "aab,ab", true}, {1, "aaaa", true},
		{2, "a,aa", false}, {2, "aa,aaa", false}, {1, "a,A", false}, {2, "a,b,ab", false}, {2, "abab,ab", false}, {2, "aa,bb,ab,aB", false}, {2, "ab,aB,bb", false}, {3, "a,b,c,abc", false}, {2, "abAB,BabA,a", true}, {2, "abAB,a,bAB", false}, {2, "abAB,a,bABa", false},
		// With empty words, and with the same word again.
		{2, "1", false}, {2, "1,1", false}, {2, "a,1", false}, {2, "1,a,b", false}, {2, "a,a", false}, {2, "ab,b,ab", false}, {2, "ab,BA", false},
		// Letters that the rank does not have.
		{2, "a,c", false}, {1, "b", false}, {3, "a,c", true}, {3, "c", true},
		// Words that are not reduced.
		{2, "aA", false}, {2, "abBa", false}, {2, "a,bBb", false},
	} {
		checkFree(t, c.rank, listed(c.l), c.want)
	}
	for _, rank := range sampleRanks() {
		isRank := rank >= 1 && rank <= 3
		checkFree(t, rank, nil, isRank)
		checkFree(t, rank, [][]int{}, isRank)
		checkFree(t, rank, [][]int{{1}}, isRank)
	}
}

// One word is a free basis if it is not empty, and two if they do not commute: words that commute are powers of one word.
func TestFreePairs(t *testing.T) {
	all := append(reducedWords(2, 3), words("abAB,abab,ababab,aaaa,bABa,abbA,abbbA,baab")...)
	for _, v := range all {
		checkFree(t, 2, [][]int{v}, len(v) > 0)
		for _, w := range everyNth(all, 2) {
			checkFree(t, 2, [][]int{v, w}, len(wantProduct(v, w, wantInvert(v), wantInvert(w))) > 0)
		}
	}
}

// A free basis has no relations, and stays one if one element is inverted or multiplied by another one; no other list becomes one in this way.
func TestFreeBasesAndRelations(t *testing.T) {
	r := rand.New(rand.NewPCG(11, 4))
	free, others := 0, 0
	for i := range 300 {
		rank := i%3 + 1
		var l [][]int
		for range 1 + r.IntN(4) {
			l = append(l, wantReduced(randomLetters(r, rank, 1+r.IntN(5))))
		}
		if !impl.IsFreeBasis(rank, l) {
			others++
		} else {
			free++
			for _, numbers := range everyNth(indices(len(l), 4), 3) {
				if len(numbers) > 0 && len(wantExpand(l, numbers)) == 0 {
					t.Errorf("IsFreeBasis(%d, %v) is true, but %v is a relation", rank, l, numbers)
				}
			}
		}
		g, _ := wantSubgroup(rank, l)
		isFree := impl.IsFreeBasis(rank, l)
		for range 6 {
			k, m := r.IntN(len(l)), r.IntN(len(l))
			l = slices.Clone(l)
			if k == m {
				l[k] = wantInvert(l[k])
			} else {
				l[k] = wantProduct(l[k], l[m])
			}
			if wantAreWords(rank, l) {
				checkFree(t, rank, l, isFree)
				checkGenerates(t, g, l, true)
			}
		}
	}
	if free < 50 || others < 50 {
		t.Errorf("there are %d free bases and %d other lists", free, others)
	}
}

func TestGeneratesAll(t *testing.T) {
	graphs := slices.Concat(everyNth(smallCores(2, 2), 3), everyNth(smallCores(3, 1), 2), smallCores(1, 3), everyNth(largeCores(), 9), []graph{generatedBy(2, "ab,aB"), generatedBy(3, "ab,bc")})
	for _, g := range graphs {
		for _, l := range everyNth(sampleLists(), 11) {
			checkGenerates(t, g, l, wantGeneratesAll(g, l))
		}
	}
	for _, l := range sampleLists() {
		for rank := 1; rank <= 3; rank++ {
			g, ok := wantSubgroup(rank, l)
			checkGenerates(t, g, l, ok)
		}
	}
	for _, c := range []struct {
		g    string
		l    string
		want bool
	}{
		{"2 2 0a1 0b1 1b0", "ab,bb", true}, {"2 2 0a1 0b1 1b0", "ab,aB", true}, {"2 2 0a1 0b1 1b0", "ab,aB,bb,1,ab", true}, {"2 2 0a1 0b1 1b0", "BA,Ab", false}, {"2 2 0a1 0b1 1b0", "ab", false}, {"2 2 0a1 0b1 1b0", "ab,bb,aa", false}, {"2 2 0a1 0b1 1b0", "ab,bbbb", false}, {"2 2 0a1 0b1 1b0", "none", false}, {"2 2 0a1 0b1 1b0", "a,b", false},
		{"2 1 0a0 0b0", "a,b", true}, {"2 1 0a0 0b0", "b,ab", true}, {"2 1 0a0 0b0", "a", false}, {"2 1 0a0 0b0", "a,b,c", false}, {"3 1 0a0 0b0", "a,b", true}, {"3 1 0a0 0b0", "a,b,c", false}, {"3 1 0a0 0b0 0c0", "a,b", false},
		{"2 1", "none", true}, {"2 1", "1", true}, {"2 1", "1,1,1", true}, {"2 1", "a", false}, {"2 1", "aA", false}, {"1 1", "none", true}, {"1 1 0a0", "none", false}, {"1 1 0a0", "aa,aaa", true}, {"1 1 0a0", "aa", false}, {"1 2 0a1 1a0", "aa", true}, {"1 2 0a1 1a0", "a", false},
		// Words that are not valid, though the lists reduce to generators, and too many of them.
		{"2 1 0a0 0b0", "a,abB", false}, {"2 1 0a0 0b0", "a,bBb", false}, {"2 1 0a0 0b0", "a,b,aA", false}, {"2 1 0a0 0b0", "a,b,1,1,1,1", true}, {"2 1 0a0 0b0", "a,b,1,1,1,1,1", false},
	} {
		checkGenerates(t, drawn(c.g), listed(c.l), c.want)
	}
	// Graphs of other ranks, or of none, and the words of this one.
	for _, rank := range sampleRanks() {
		checkGenerates(t, graphOf(rank, 1, edge(0, 1, 0)), words("a"), rank >= 1 && rank <= 3)
		checkGenerates(t, graphOf(rank, 1), nil, rank >= 1 && rank <= 3)
	}
}

// Generators of a subgroup generate all of it, those of a smaller or larger one do not.
func TestGeneratorsOfOtherSubgroups(t *testing.T) {
	known := knownSubgroups()
	for _, a := range known {
		for _, b := range known {
			if a.rank != b.rank {
				continue
			}
			g := generatedBy(a.rank, a.generators)
			isSame := true
			for _, w := range listed(b.generators) {
				isSame = isSame && a.has(w)
			}
			for _, w := range listed(a.generators) {
				isSame = isSame && b.has(w)
			}
			checkGenerates(t, g, listed(b.generators), isSame)
		}
	}
}

func TestFormatIndices(t *testing.T) {
	for _, l := range slices.Concat(listsOver([]int{0, 1, -1, 2, -2, 10, -10, 123456789012}, 3), listsOver(numbersInOrder(), 2)) {
		if got, want := impl.FormatIndices(l), wantFormatIndices(l); got != want {
			t.Errorf("FormatIndices(%v) = %q, want %q", l, got, want)
		}
	}
	for _, c := range []struct {
		l    []int
		want string
	}{
		{nil, "none"}, {[]int{}, "none"}, {[]int{0}, "0"}, {[]int{7}, "7"}, {[]int{-7}, "-7"}, {[]int{1, 2}, "1 2"}, {[]int{-1, -2, 10}, "-1 -2 10"}, {[]int{0, 0}, "0 0"}, {[]int{math.MinInt, math.MaxInt}, "-9223372036854775808 9223372036854775807"},
	} {
		if got := impl.FormatIndices(c.l); got != c.want {
			t.Errorf("FormatIndices(%v) = %q, want %q", c.l, got, c.want)
		}
	}
	for _, n := range []int{200, 201, 10000} {
		l := slices.Repeat([]int{-5, 12}, n)
		if got, want := impl.FormatIndices(l), strings.Repeat("-5 12 ", n-1)+"-5 12"; got != want {
			t.Errorf("FormatIndices of %d numbers has %d bytes, want %d", 2*n, len(got), len(want))
		}
	}
}

// No two elements of a basis share memory, not even in their unused capacity, and none is shared with a later result.
func TestElementsShareNoMemory(t *testing.T) {
	for _, g := range slices.Concat(everyNth(smallCores(2, 3), 3), everyNth(smallCores(3, 2), 9), largeCores()) {
		want := wantBasis(g)
		for i := range want {
			got := impl.BasisOf(g)
			overwritten(got[i])
			got[i] = want[i]
			checkWords(t, got, want, "BasisOf, with one element overwritten,", g, i)
		}
		checkWords(t, impl.BasisOf(g), want, "BasisOf", g)
	}
}

// Arguments keep their elements and unused capacity, and a change to a result changes no argument and no later result.
func TestBasesShareNoMemory(t *testing.T) {
	for _, original := range slices.Concat(everyNth(smallCores(2, 3), 5), everyNth(largeCores(), 2), everyNth(noCores(), 3)) {
		g, memory := graphWithRoom(original)
		wantMemory := slices.Clone(memory)
		basis := wantBasis(original)
		w, letters := withRoom(slices.Concat(wantExpand(basis, []int{1, -2, 1}), []int{2, -2, 3, -3, 1, -1}))
		wantLetters := slices.Clone(letters)
		for range 2 {
			l, ok := impl.RewriteIn(g, w)
			if ok != wantIsCore(original) {
				t.Errorf("RewriteIn(%v, %v) = %v, %t", original, w, l, ok)
			}
			checkList(t, wantExpand(basis, l), wantExpand(basis, []int{1, -2, 1}), "the product of RewriteIn", original, w)
			overwritten(l)
			checkWords(t, impl.BasisOf(g), basis, "BasisOf", original)
			impl.GeneratesAll(g, [][]int{w, w[:1]})
		}
		checkList(t, letters, wantLetters, "letters", original)
		if !slices.Equal(memory, wantMemory) {
			t.Errorf("the edges of %v have changed to %v", original, memory)
		}
	}
	for _, original := range slices.Concat(everyNth(elementsToTest(), 2), everyNth(sampleLists(), 9)) {
		l, memory, letters := wordsWithRoom(original)
		wantMemory, wantLetters := slices.Clone(memory), slices.Clone(letters)
		for _, numbers := range [][]int{nil, {1}, {-1}, {2}, {1, 2}, {-2, 1, 1}, slices.Repeat([]int{1, 2, 3}, 80)} {
			named, memoryOfNumbers := withRoom(numbers)
			wantNumbers := slices.Clone(memoryOfNumbers)
			for range 2 {
				got := impl.ExpandBy(l, named)
				checkList(t, got, wantExpand(original, numbers[:min(len(numbers), maxFactors)]), "ExpandBy", original, numbers)
				overwritten(got)
			}
			impl.FormatIndices(named)
			checkList(t, memoryOfNumbers, wantNumbers, "numbers", numbers)
		}
		impl.IsFreeBasis(3, l)
		impl.GeneratesAll(wantWhole(2), l)
		checkList(t, letters, wantLetters, "letters", original)
		if !equalLists(memory, wantMemory) {
			t.Errorf("the words of %v have changed to %v", original, memory)
		}
	}
}

// Lists with nothing in them are treated alike, whether they are nil or empty.
func TestBasesWithEmptyLists(t *testing.T) {
	for _, edges := range [][]impl.Edge{nil, {}} {
		g := graph{Rank: 2, Size: 1, Edges: edges}
		checkWords(t, impl.BasisOf(g), nil, "BasisOf", g)
		for _, l := range [][][]int{nil, {}, {nil}, {{}}, {{}, nil}} {
			checkGenerates(t, g, l, true)
			checkFree(t, 2, l, len(l) == 0)
			for _, numbers := range [][]int{nil, {}, {1}, {1, -2}} {
				checkList(t, impl.ExpandBy(l, numbers), nil, "ExpandBy", l, numbers)
			}
		}
		for _, w := range [][]int{nil, {}} {
			if l, ok := impl.RewriteIn(g, w); !ok || len(l) != 0 {
				t.Errorf("RewriteIn(%v, %v) = %v, %t", g, w, l, ok)
			}
		}
	}
}

// Calls at the same time have no state in common, even for the same graph.
func TestBasesAtTheSameTime(t *testing.T) {
	cores := everyNth(largeCores(), 4)
	var texts [8][]string
	var group sync.WaitGroup
	for i := range texts {
		group.Go(func() {
			for _, g := range cores {
				basis := impl.BasisOf(g)
				w := impl.ExpandBy(basis, []int{1, 2, -1, 3})
				l, ok := impl.RewriteIn(g, w)
				texts[i] = append(texts[i], wantFormatWords(basis), impl.FormatIndices(l), fmt.Sprint(ok, impl.IsFreeBasis(g.Rank, basis), impl.GeneratesAll(g, basis)))
			}
		})
	}
	group.Wait()
	for i := range texts {
		if !slices.Equal(texts[i], texts[0]) {
			t.Errorf("calls at the same time differ: %d", i)
		}
	}
	for k, g := range cores {
		if want := wantFormatWords(wantBasis(g)); texts[0][3*k] != want {
			t.Errorf("BasisOf(%v) = %s, want %s", g, texts[0][3*k], want)
		}
	}
}
