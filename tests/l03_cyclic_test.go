package tests

import (
	"math"
	"slices"
	"strings"
	"testing"

	"loop.example/g02075/impl"
)

// Promise 2, as far as chapter 3 goes: cores, roots and conjugating words are those of the elements of the group.
// The wanted results are searched for here in the plainest way, from the definitions of the chapter.

func wantCore(w []int) ([]int, []int) {
	core := wantReduced(w)
	var removed []int
	for len(core) >= 2 && wantInverse(core[0], core[len(core)-1]) {
		removed = append(removed, core[0])
		core = core[1 : len(core)-1]
	}
	return core, removed
}

// wantRotated moves one letter at a time.
func wantRotated(w []int, k int) []int {
	w = slices.Clone(w)
	if len(w) == 0 {
		return nil
	}
	for k = (k%len(w) + len(w)) % len(w); k > 0; k-- {
		w = append(w[1:], w[0])
	}
	return w
}

func wantLeast(w []int) ([]int, int) {
	least, at := w, 0
	for k := range w {
		if r := wantRotated(w, k); impl.CompareWords(r, least) < 0 {
			least, at = r, k
		}
	}
	return least, at
}

func wantConjugating(a []int, b []int) ([]int, bool) {
	coreA, p := wantCore(a)
	coreB, q := wantCore(b)
	if len(coreA) == 0 && len(coreB) == 0 {
		return nil, true
	}
	for k := range coreA {
		if slices.Equal(wantRotated(coreA, k), coreB) {
			return wantProduct(p, coreA[:k], wantInvert(q)), true
		}
	}
	return nil, false
}

// wantRoot tries all lengths of a root of the core.
func wantRoot(w []int) ([]int, int) {
	core, p := wantCore(w)
	for n := 1; n <= len(core); n++ {
		if len(core)%n == 0 && slices.Equal(slices.Repeat(core[:n], len(core)/n), core) {
			return wantProduct(p, core[:n], wantInvert(p)), len(core) / n
		}
	}
	return nil, 0
}

// listsOfLetters holds words, lists that are not reduced, and letters that no rank has.
func listsOfLetters() [][]int {
	lists := append(listsOver([]int{1, -1, 2, -2}, 5), listsOver([]int{1, -1, 2}, 7)...)
	lists = append(lists, listsOver([]int{1, -1, math.MinInt}, 6)...)
	lists = append(lists, listsOver(numbersInOrder()[1:], 3)...)
	for _, s := range []string{"abaBA", "cababC", "abcabcabcabc", "aabaabaabaac", "abAabAabA", "aAbBcC", "abcCBA", "cabcCBAC"} {
		lists = append(lists, word(s))
	}
	return lists
}

func checkCyclicCore(t *testing.T, w []int) {
	t.Helper()
	core, removed := impl.CyclicCore(w)
	wantC, wantR := wantCore(w)
	checkList(t, core, wantC, "the core of CyclicCore", w)
	checkList(t, removed, wantR, "the letters removed by CyclicCore", w)
	checkList(t, wantProduct(removed, core, wantInvert(removed)), wantReduced(w), "the product of core and removed letters", w)
	wantForm, _ := wantLeast(wantC)
	checkList(t, impl.CyclicForm(w), wantForm, "CyclicForm", w)
	if got := impl.CyclicLength(w); got != len(wantC) {
		t.Errorf("CyclicLength(%v) = %d, want %d", w, got, len(wantC))
	}
}

func TestCyclicCore(t *testing.T) {
	for _, w := range listsOfLetters() {
		checkCyclicCore(t, w)
	}
}

func TestCyclicCoreExamples(t *testing.T) {
	for _, c := range []struct {
		w       string
		core    string
		removed string
		form    string
	}{
		{"", "", "", ""},
		{"a", "a", "", "a"},
		{"A", "A", "", "A"},
		{"aA", "", "", ""},
		{"aAAa", "", "", ""},
		{"ab", "ab", "", "ab"},
		{"ba", "ba", "", "ab"},
		{"abA", "b", "a", "b"},
		{"abaBA", "a", "ab", "a"},
		{"abABA", "A", "ab", "A"},
		{"abAB", "abAB", "", "abAB"},
		{"BabA", "BabA", "", "abAB"},
		{"bbaB", "ba", "b", "ab"},
		{"cababC", "abab", "c", "abab"},
		{"cbabaC", "baba", "c", "abab"},
		{"aBcbAA", "BcbA", "a", "ABcb"},
		{"abBBA", "B", "a", "B"},
		{"bAaB", "", "", ""},
		{"abcCBA", "", "", ""},
		{"aaAbA", "b", "a", "b"},
		{"abccBA", "cc", "ab", "cc"},
	} {
		core, removed := impl.CyclicCore(word(c.w))
		checkList(t, core, word(c.core), "the core of CyclicCore", c.w)
		checkList(t, removed, word(c.removed), "the letters removed by CyclicCore", c.w)
		checkList(t, impl.CyclicForm(word(c.w)), word(c.form), "CyclicForm", c.w)
		if got := impl.CyclicLength(word(c.w)); got != len(c.core) {
			t.Errorf("CyclicLength(%s) = %d, want %d", c.w, got, len(c.core))
		}
	}
}

func sampleRotations(w []int) []int {
	l := []int{math.MinInt, math.MinInt + 1, -math.MaxInt, math.MaxInt - 1, math.MaxInt, 1 << 32, -1 << 32, 1000001, -1000001}
	for k := -3*len(w) - 2; k <= 3*len(w)+2; k++ {
		l = append(l, k)
	}
	return l
}

func TestRotateWord(t *testing.T) {
	lists := append(listsOver([]int{1, -1, 2, math.MinInt}, 4), word("abcABCaabb"), word("abcabc"), []int{1, 2, 3, 4, 5, 6, 7})
	for _, w := range lists {
		for _, k := range sampleRotations(w) {
			checkList(t, impl.RotateWord(w, k), wantRotated(w, k), "RotateWord", w, k)
		}
	}
}

func TestRotateWordExamples(t *testing.T) {
	for _, c := range []struct {
		w    string
		k    int
		want string
	}{
		{"abc", 0, "abc"},
		{"abc", 1, "bca"},
		{"abc", 2, "cab"},
		{"abc", 3, "abc"},
		{"abc", 4, "bca"},
		{"abc", 7, "bca"},
		{"abc", -1, "cab"},
		{"abc", -2, "bca"},
		{"abc", -3, "abc"},
		{"abc", -4, "cab"},
		{"abc", 3000000001, "bca"},
		{"abc", math.MaxInt, "bca"},
		{"abc", math.MinInt, "bca"},
		{"ab", math.MinInt, "ab"},
		{"ab", math.MaxInt, "ba"},
		{"a", math.MinInt, "a"},
		{"a", 17, "a"},
		{"", 5, ""},
		{"", -5, ""},
		{"", 0, ""},
		{"", math.MinInt, ""},
		{"abA", 1, "bAa"},
		{"aAb", 2, "baA"},
	} {
		checkList(t, impl.RotateWord(word(c.w), c.k), word(c.want), "RotateWord", c.w, c.k)
	}
}

func checkLeastRotation(t *testing.T, w []int) {
	t.Helper()
	want, wantK := wantLeast(w)
	got, k := impl.LeastRotation(w)
	if !slices.Equal(got, want) || k != wantK {
		t.Errorf("LeastRotation(%v) = %v, %d, want %v, %d", w, got, k, want, wantK)
	}
}

func TestLeastRotation(t *testing.T) {
	for _, w := range listsOfLetters() {
		checkLeastRotation(t, w)
	}
	for _, w := range listsOver([]int{1, 2}, 12) {
		checkLeastRotation(t, w)
	}
	for _, w := range listsOver([]int{-1, 2, 3}, 8) {
		checkLeastRotation(t, w)
	}
}

func TestLeastRotationExamples(t *testing.T) {
	for _, c := range []struct {
		w    string
		want string
		k    int
	}{
		{"", "", 0},
		{"c", "c", 0},
		{"aaaa", "aaaa", 0},
		{"bab", "abb", 1},
		{"baba", "abab", 1},
		{"bbabba", "abbabb", 2},
		{"Aa", "aA", 1},
		{"bA", "Ab", 1},
		{"Ba", "aB", 1},
		{"BbA", "ABb", 2},
		{"cbcac", "accbc", 3},
		{"aabaaab", "aaabaab", 3},
		{"abaabaaab", "aaababaab", 5},
	} {
		got, k := impl.LeastRotation(word(c.w))
		if !slices.Equal(got, word(c.want)) || k != c.k {
			t.Errorf("LeastRotation(%s) = %v, %d, want %s, %d", c.w, got, k, c.want, c.k)
		}
	}
}

func checkAreConjugate(t *testing.T, a []int, b []int) {
	t.Helper()
	want, wantOk := wantConjugating(a, b)
	x, ok := impl.AreConjugate(a, b)
	if !slices.Equal(x, want) || ok != wantOk {
		t.Errorf("AreConjugate(%v, %v) = %v, %t, want %v, %t", a, b, x, ok, want, wantOk)
	}
}

// Words of up to four letters that are conjugate have a conjugating word of up to four letters, so that all conjugates are found here.
func TestAreConjugateExactly(t *testing.T) {
	words := reducedWords(2, 4)
	for _, a := range words {
		conjugates := map[string]bool{}
		for _, x := range words {
			conjugates[wantFormatWord(wantProduct(wantInvert(x), a, x))] = true
		}
		for _, b := range words {
			checkAreConjugate(t, a, b)
			x, ok := impl.AreConjugate(a, b)
			if ok != conjugates[wantFormatWord(b)] {
				t.Errorf("AreConjugate(%v, %v) is %t", a, b, ok)
			}
			if ok {
				checkList(t, impl.ConjugateWord(a, x), b, "ConjugateWord by the word of AreConjugate", a, b)
			}
		}
	}
}

func TestAreConjugateLonger(t *testing.T) {
	words := []string{
		"ababab", "bababa", "abab", "cabababC", "aabaab", "abaaba", "baabaa", "aabab", "abaab", "abABc", "ABcab", "abcABC", "bcABCa",
		"aBcabbACbA", "abacabad", "BAb", "CbaBc", "cABBaC", "BB", "bb", "aaBBaaBB", "aBBaaBBa", "BBaaBBaa",
	}
	for _, s := range words {
		for _, u := range words {
			checkAreConjugate(t, word(s), word(u))
		}
		for _, x := range reducedWords(3, 3) {
			a := wantReduced(word(s))
			b := wantProduct(wantInvert(x), a, x)
			checkAreConjugate(t, a, b)
			y, ok := impl.AreConjugate(a, b)
			if !ok {
				t.Errorf("AreConjugate(%v, %v) is false, though %v conjugates", a, b, x)
			}
			checkList(t, impl.ConjugateWord(a, y), b, "ConjugateWord by the word of AreConjugate", a, b)
			checkList(t, impl.CyclicForm(b), impl.CyclicForm(a), "CyclicForm", b)
		}
	}
}

// For lists that are not reduced the result is that of the words they are equal to.
func TestAreConjugateNotReduced(t *testing.T) {
	lists := append(listsOver([]int{1, -1, 2}, 4), word("abBa"), word("aabB"), word("cCab"), word("bcCa"))
	for _, a := range lists {
		for _, b := range lists {
			checkAreConjugate(t, a, b)
			x, ok := impl.AreConjugate(a, b)
			y, okReduced := impl.AreConjugate(wantReduced(a), wantReduced(b))
			if !slices.Equal(x, y) || ok != okReduced {
				t.Errorf("AreConjugate(%v, %v) = %v, %t, but for reduced lists %v, %t", a, b, x, ok, y, okReduced)
			}
		}
	}
}

func TestAreConjugateOtherLetters(t *testing.T) {
	for _, numbers := range [][]int{{1, 2, math.MinInt}, {math.MaxInt, -math.MaxInt, math.MinInt}, {4, -4, -1 << 32}} {
		lists := listsOver(numbers, 4)
		for _, a := range lists {
			for _, b := range lists {
				checkAreConjugate(t, a, b)
			}
		}
	}
}

func TestAreConjugateExamples(t *testing.T) {
	for _, c := range []struct {
		a  string
		b  string
		x  string
		ok bool
	}{
		{"", "", "", true},
		{"aA", "", "", true},
		{"", "bB", "", true},
		{"abBA", "cC", "", true},
		{"", "a", "", false},
		{"a", "", "", false},
		{"a", "a", "", true},
		{"a", "A", "", false},
		{"a", "b", "", false},
		{"a", "aa", "", false},
		{"ab", "ba", "a", true},
		{"ba", "ab", "b", true},
		{"ab", "aB", "", false},
		{"ab", "BA", "", false},
		{"ab", "aab", "", false},
		{"abab", "baba", "a", true},
		{"abab", "abab", "", true},
		{"abcabc", "cabcab", "ab", true},
		{"aabb", "abab", "", false},
		{"abA", "b", "a", true},
		{"b", "abA", "A", true},
		{"abA", "cbC", "aC", true},
		{"abaBA", "a", "ab", true},
		{"abAB", "BabA", "abA", true},
		{"abAB", "baBA", "", false},
		{"cabC", "ba", "ca", true},
		{"ab", "cCba", "a", true},
		{"aAab", "ba", "a", true},
		{"abA", "bB", "", false},
	} {
		x, ok := impl.AreConjugate(word(c.a), word(c.b))
		if !slices.Equal(x, word(c.x)) || ok != c.ok {
			t.Errorf("AreConjugate(%s, %s) = %v, %t, want %s, %t", c.a, c.b, x, ok, c.x, c.ok)
		}
	}
}

func checkRootOf(t *testing.T, w []int, want []int, wantExponent int) {
	t.Helper()
	root, exponent := impl.RootOf(w)
	if !slices.Equal(root, want) || exponent != wantExponent {
		t.Errorf("RootOf(%v) = %v, %d, want %v, %d", w, root, exponent, want, wantExponent)
	}
	if got := impl.IsProperPower(w); got != (wantExponent > 1) {
		t.Errorf("IsProperPower(%v) = %t", w, got)
	}
}

// A word is a power only of words that are not longer, and with no exponent greater than its length, so that all its roots are found here.
func TestRootOfExactly(t *testing.T) {
	type power struct {
		root     []int
		exponent int
	}
	greatest := map[string]power{"1": {}}
	words := reducedWords(2, 6)
	for _, r := range words[1:] {
		for k := range 6 {
			if w := wantFormatWord(wantReduced(slices.Repeat(r, k+1))); greatest[w].exponent <= k {
				greatest[w] = power{r, k + 1}
			}
		}
	}
	for _, w := range words {
		p := greatest[wantFormatWord(w)]
		checkRootOf(t, w, p.root, p.exponent)
	}
}

func TestRootOf(t *testing.T) {
	for _, w := range listsOfLetters() {
		want, exponent := wantRoot(w)
		checkRootOf(t, w, want, exponent)
	}
}

// The edge case of this chapter: a word that is a power.
func TestRootOfPowers(t *testing.T) {
	roots := append(slices.DeleteFunc(reducedWords(2, 4), func(w []int) bool { _, k := wantRoot(w); return k != 1 }),
		word("abc"), word("abAB"), word("aabaaab"), word("cabC"), word("abaBAb"), []int{4, math.MaxInt}, []int{math.MinInt})
	for _, r := range roots {
		checkRootOf(t, r, r, 1)
		for k := 1; k <= 24; k++ {
			w := impl.PowerWord(r, k)
			checkRootOf(t, w, r, k)
			checkRootOf(t, impl.PowerWord(r, -k), impl.InvertWord(r), k)
		}
		for _, by := range []string{"a", "B", "ab", "cA", "abc"} {
			x := word(by)
			w := impl.ConjugateWord(impl.PowerWord(r, 6), x)
			if !slices.Contains(r, math.MinInt) {
				checkRootOf(t, w, impl.ConjugateWord(r, x), 6)
			}
		}
	}
}

func TestRootOfExamples(t *testing.T) {
	for _, c := range []struct {
		w        string
		root     string
		exponent int
	}{
		{"", "", 0},
		{"aA", "", 0},
		{"abBA", "", 0},
		{"a", "a", 1},
		{"A", "A", 1},
		{"aa", "a", 2},
		{"AAA", "A", 3},
		{"aaaaaa", "a", 6},
		{"ab", "ab", 1},
		{"aba", "aba", 1},
		{"abab", "ab", 2},
		{"ababa", "ababa", 1},
		{"aabaab", "aab", 2},
		{"aabaabaab", "aab", 3},
		{"aabaaba", "aabaaba", 1},
		{"abababab", "ab", 4},
		{"abaaba", "aba", 2},
		{"aabbaabb", "aabb", 2},
		{"abbaab", "abbaab", 1},
		{"aabb", "aabb", 1},
		{"abAB", "abAB", 1},
		{"abABabAB", "abAB", 2},
		{"abbA", "abA", 2},
		{"abaabA", "abaabA", 1},
		{"cababC", "cabC", 2},
		{"BaaaB", "BaaaB", 1},
		{"Baaab", "Bab", 3},
		{"abccccBA", "abcBA", 4},
		{"abAabA", "abA", 2},
		{"aAaa", "a", 2},
		{"abBab", "aab", 1},
		{"cCabab", "ab", 2},
		{strings.Repeat("a", 24), "a", 24},
		{strings.Repeat("abc", 40), "abc", 40},
		{strings.Repeat("a", 101), "a", 101},
	} {
		checkRootOf(t, word(c.w), word(c.root), c.exponent)
	}
}

func TestDoCommute(t *testing.T) {
	lists := append(listsOver([]int{1, -1, 2}, 4), reducedWords(2, 3)...)
	lists = append(lists, listsOver([]int{1, 5, math.MinInt}, 2)...)
	for _, a := range lists {
		for _, b := range lists {
			if got, want := impl.DoCommute(a, b), slices.Equal(wantProduct(a, b), wantProduct(b, a)); got != want {
				t.Errorf("DoCommute(%v, %v) = %t", a, b, got)
			}
		}
	}
}

// Words commute exactly if they are powers of one word.
func TestCommutingWordsHaveOneRoot(t *testing.T) {
	words := append(reducedWords(2, 4), word("abaBA"), word("abAAABA"), word("ababab"), word("BABA"))
	for _, a := range words {
		rootA, _ := impl.RootOf(a)
		for _, b := range words {
			rootB, _ := impl.RootOf(b)
			want := len(a) == 0 || len(b) == 0 || slices.Equal(rootA, rootB) || slices.Equal(rootA, wantInvert(rootB))
			if got := impl.DoCommute(a, b); got != want {
				t.Errorf("DoCommute(%v, %v) = %t, with the roots %v and %v", a, b, got, rootA, rootB)
			}
		}
	}
}

func TestDoCommuteExamples(t *testing.T) {
	for _, c := range []struct {
		a    string
		b    string
		want bool
	}{
		{"", "", true},
		{"", "ab", true},
		{"ab", "", true},
		{"aA", "b", true},
		{"a", "a", true},
		{"a", "A", true},
		{"a", "b", false},
		{"aa", "AAA", true},
		{"ab", "ba", false},
		{"ab", "abab", true},
		{"ab", "BABABA", true},
		{"abA", "abbA", true},
		{"abA", "b", false},
		{"abab", "abaab", false},
		{"abB", "aaa", true},
		{"bBa", "ab", false},
	} {
		if got := impl.DoCommute(word(c.a), word(c.b)); got != c.want {
			t.Errorf("DoCommute(%s, %s) = %t", c.a, c.b, got)
		}
	}
}

// Lists of any length are accepted, also those for which comparing all rotations would take too long.
func TestLongCyclicWords(t *testing.T) {
	const n = 200000
	ones := slices.Repeat([]int{1}, n)
	least := append(slices.Repeat([]int{1}, n-1), 2)
	late := append(slices.Repeat([]int{2}, n-1), 1)
	if got, k := impl.LeastRotation(ones); k != 0 || !slices.Equal(got, ones) {
		t.Errorf("LeastRotation of equal letters has moved %d", k)
	}
	if got, k := impl.LeastRotation(least); k != 0 || !slices.Equal(got, least) {
		t.Errorf("LeastRotation of a least rotation has moved %d", k)
	}
	if got, k := impl.LeastRotation(late); k != n-1 || got[0] != 1 || len(got) != n {
		t.Errorf("LeastRotation of a list that ends with its least letter has moved %d", k)
	}
	middle := impl.RotateWord(late, n/2)
	if x, ok := impl.AreConjugate(late, middle); !ok || len(x) != n/2 {
		t.Errorf("AreConjugate of long rotations = %d letters, %t", len(x), ok)
	}
	if root, k := impl.RootOf(ones); k != n || !slices.Equal(root, []int{1}) {
		t.Errorf("RootOf of equal letters has %d letters and the exponent %d", len(root), k)
	}
	if root, k := impl.RootOf(late); k != 1 || !slices.Equal(root, late) {
		t.Errorf("RootOf of a long word has %d letters and the exponent %d", len(root), k)
	}
	nested := slices.Concat(ones, word("bb"), slices.Repeat([]int{-1}, n))
	if core, removed := impl.CyclicCore(nested); !slices.Equal(core, word("bb")) || !slices.Equal(removed, ones) {
		t.Errorf("CyclicCore of a long word has %d and %d letters", len(core), len(removed))
	}
}

// The chapter does not say what the results for lists with 0 are, but no call may panic.
func TestCyclicWordsWithZero(t *testing.T) {
	lists := listsOver([]int{0, 1, -1, math.MinInt}, 3)
	for _, a := range lists {
		impl.CyclicCore(a)
		impl.CyclicForm(a)
		impl.CyclicLength(a)
		impl.LeastRotation(a)
		impl.RotateWord(a, 1)
		impl.RootOf(a)
		impl.IsProperPower(a)
		for _, b := range lists {
			impl.AreConjugate(a, b)
			impl.DoCommute(a, b)
		}
	}
}

// overwritten fills a list and its unused capacity.
func overwritten(w []int) {
	w = w[:cap(w)]
	for i := range w {
		w[i] = 55
	}
}

func TestCyclicWordsShareNoMemory(t *testing.T) {
	for _, pair := range [][2][]int{{nil, nil}, {word("ab"), word("ba")}, {word("abA"), word("cbC")}, {word("cababC"), word("ab")}, {word("aAb"), word("b")}, {word("baab"), nil}} {
		a, memoryA := withRoom(pair[0])
		b, memoryB := withRoom(pair[1])
		wantA, wantB := slices.Clone(memoryA), slices.Clone(memoryB)
		calls := []func() []int{
			func() []int { w, _ := impl.CyclicCore(a); return w },
			func() []int { _, w := impl.CyclicCore(a); return w },
			func() []int { return impl.RotateWord(a, 0) },
			func() []int { return impl.RotateWord(a, 1) },
			func() []int { w, _ := impl.LeastRotation(a); return w },
			func() []int { return impl.CyclicForm(a) },
			func() []int { w, _ := impl.AreConjugate(a, b); return w },
			func() []int { w, _ := impl.RootOf(a); return w },
		}
		for i, call := range calls {
			got := call()
			want := slices.Clone(got)
			overwritten(got)
			checkList(t, call(), want, "the same call again", i, a, b)
		}
		impl.IsProperPower(a)
		impl.CyclicLength(a)
		impl.DoCommute(a, b)
		checkList(t, memoryA, wantA, "first argument", pair)
		checkList(t, memoryB, wantB, "second argument", pair)
	}
	for _, s := range []string{"abaBA", "cababC", "abA", "ab", "aAbcB"} {
		wantC, wantR := wantCore(word(s))
		core, removed := impl.CyclicCore(word(s))
		overwritten(core)
		checkList(t, removed, wantR, "the removed letters, after the core was overwritten", s)
		core, removed = impl.CyclicCore(word(s))
		overwritten(removed)
		checkList(t, core, wantC, "the core, after the removed letters were overwritten", s)
	}
}
