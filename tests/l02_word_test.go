package tests

import (
	"math"
	"slices"
	"strings"
	"testing"

	"loop.example/g02075/impl"
)

// Promise 2, as far as chapter 2 goes: reduced words form a group.
// Promise 16, as far as words go: words can be parsed from their string format.
// The wanted results are computed here in the plainest way, from the definitions of the chapter.

const maxWord = 24

// numbersInOrder holds numbers in the order of CompareWords, those that are no letters of any rank included.
func numbersInOrder() []int {
	return []int{
		0, 1, -1, 2, -2, 3, -3, 4, -4, 9, -9, 97, -97, 1 << 32, -1 << 32, 1<<62 + 1, -(1<<62 + 1),
		math.MaxInt - 1, -(math.MaxInt - 1), math.MaxInt, -math.MaxInt, math.MinInt,
	}
}

// listsOver returns all lists of up to most of some numbers, the shorter ones first.
func listsOver(numbers []int, most int) [][]int {
	all := [][]int{nil}
	last := all
	for range most {
		var next [][]int
		for _, l := range last {
			for _, n := range numbers {
				next = append(next, append(slices.Clone(l), n))
			}
		}
		all = append(all, next...)
		last = next
	}
	return all
}

func wantInverse(a int, b int) bool {
	return a != 0 && a != math.MinInt && b == -a
}

// wantReduced cuts out the last two neighbours that are inverse to each other, again and again.
func wantReduced(w []int) []int {
	w = slices.Clone(w)
	for i := len(w) - 2; i >= 0; i-- {
		if wantInverse(w[i], w[i+1]) {
			w = slices.Delete(w, i, i+2)
			i = len(w) - 1
		}
	}
	return w
}

func wantProduct(factors ...[]int) []int {
	return wantReduced(slices.Concat(factors...))
}

func wantInvert(w []int) []int {
	var v []int
	for _, n := range w {
		v = append([]int{-n}, v...)
	}
	return v
}

func isReduced(w []int) bool {
	return slices.Equal(wantReduced(w), w)
}

// reducedWords returns all reduced words of a rank with up to most letters.
func reducedWords(rank int, most int) [][]int {
	var letters []int
	for i := 1; i <= rank; i++ {
		letters = append(letters, i, -i)
	}
	return slices.DeleteFunc(listsOver(letters, most), func(w []int) bool { return !isReduced(w) })
}

// word writes a list of letters as in FormatWord, spelt out so that it does not depend on ParseWord.
func word(s string) []int {
	var w []int
	for _, r := range s {
		if i := strings.IndexRune("abc", r); i >= 0 {
			w = append(w, i+1)
		} else if i := strings.IndexRune("ABC", r); i >= 0 {
			w = append(w, -i-1)
		}
	}
	return w
}

func checkList(t *testing.T, got []int, want []int, call string, args ...any) {
	t.Helper()
	if !slices.Equal(got, want) {
		t.Errorf("%s of %v = %v, want %v", call, args, got, want)
	}
}

func TestWordLimits(t *testing.T) {
	if impl.MaxRank != 3 || impl.MaxWord != maxWord {
		t.Errorf("MaxRank = %d, MaxWord = %d", impl.MaxRank, impl.MaxWord)
	}
}

func wantIsWord(rank int, w []int) bool {
	if rank != 1 && rank != 2 && rank != 3 || len(w) > 24 || !isReduced(w) {
		return false
	}
	for _, n := range w {
		if !slices.Contains([]int{1, -1, 2, -2, 3, -3}[:2*rank], n) {
			return false
		}
	}
	return true
}

func sampleRanks() []int {
	return []int{math.MinInt, -math.MaxInt, -3, -2, -1, 0, 1, 2, 3, 4, 5, 256, 1 << 32, 1<<32 + 1, math.MaxInt}
}

func TestIsWord(t *testing.T) {
	lists := listsOver([]int{0, 1, -1, 2, -2, 3, -3, 4, -4}, 3)
	lists = append(lists, listsOver(numbersInOrder(), 2)...)
	for _, rank := range sampleRanks() {
		for _, w := range lists {
			if got, want := impl.IsWord(rank, w), wantIsWord(rank, w); got != want {
				t.Errorf("IsWord(%d, %v) = %t", rank, w, got)
			}
		}
	}
}

func TestIsWordLength(t *testing.T) {
	for _, s := range []string{"a", "B", "ab", "aB", "abc", "abAB"} {
		rank := 2
		if strings.Contains(s, "c") {
			rank = 3
		}
		w := word(strings.Repeat(s, 30))
		for n := range w {
			if got := impl.IsWord(rank, w[:n]); got != (n <= 24) {
				t.Errorf("IsWord(%d, %v) = %t for %d letters", rank, w[:n], got, n)
			}
		}
	}
	w := word(strings.Repeat("ab", 12))
	w[23] = -1
	if impl.IsWord(2, w) {
		t.Errorf("IsWord(2, %v), the last letters of which are inverse", w)
	}
	if impl.IsWord(2, word(strings.Repeat("aA", 20))) {
		t.Error("IsWord of a long list that is equal to a short word")
	}
}

func TestReduceLetters(t *testing.T) {
	for _, w := range listsOver([]int{0, 1, -1, 2, math.MinInt}, 6) {
		got := impl.ReduceLetters(w)
		checkList(t, got, wantReduced(w), "ReduceLetters", w)
		checkList(t, impl.ReduceLetters(got), got, "ReduceLetters", got)
	}
	for _, w := range listsOver(numbersInOrder(), 3) {
		checkList(t, impl.ReduceLetters(w), wantReduced(w), "ReduceLetters", w)
	}
}

func TestReduceLettersExamples(t *testing.T) {
	least := math.MinInt
	for _, c := range []struct {
		w    []int
		want []int
	}{
		{nil, nil},
		{[]int{1}, []int{1}},
		{[]int{1, -1}, nil},
		{[]int{-1, 1}, nil},
		{[]int{1, 1}, []int{1, 1}},
		{[]int{1, -1, 1}, []int{1}},
		{[]int{1, -1, -1, 1}, nil},
		{[]int{1, 2, -2, -1, 3}, []int{3}},
		{[]int{3, 1, 2, -2, -1}, []int{3}},
		{[]int{0, 0}, []int{0, 0}},
		{[]int{least, least}, []int{least, least}},
		{[]int{least, 1, -1, least}, []int{least, least}},
		{[]int{0, 7, -7, 0}, []int{0, 0}},
		{[]int{1, 0, -1}, []int{1, 0, -1}},
		{[]int{1, least, -1}, []int{1, least, -1}},
		{[]int{math.MaxInt, -math.MaxInt}, nil},
		{[]int{math.MaxInt, least}, []int{math.MaxInt, least}},
		{[]int{5, -5, 1 << 40, -1 << 40}, nil},
		{[]int{1, 1 << 32, -1 << 32, -(1 << 32) - 1}, []int{1, -(1 << 32) - 1}},
	} {
		checkList(t, impl.ReduceLetters(c.w), c.want, "ReduceLetters", c.w)
	}
}

func TestProducts(t *testing.T) {
	lists := listsOver([]int{0, 1, -1, 2, -2, math.MinInt}, 2)
	lists = append(lists, word("abA"), word("aBc"), word("aBA"), word("aAb"), word("bBBb"), []int{4, -4, 5}, []int{math.MaxInt, 1})
	for _, a := range lists {
		checkList(t, impl.InvertWord(a), wantInvert(a), "InvertWord", a)
		for _, b := range lists {
			checkList(t, impl.MultiplyWords(a, b), wantProduct(a, b), "MultiplyWords", a, b)
			checkList(t, impl.CommutatorOf(a, b), wantProduct(a, b, wantInvert(a), wantInvert(b)), "CommutatorOf", a, b)
			checkList(t, impl.ConjugateWord(a, b), wantProduct(wantInvert(b), a, b), "ConjugateWord", a, b)
		}
	}
	for _, n := range numbersInOrder() {
		checkList(t, impl.InvertWord([]int{n, 1}), []int{-1, -n}, "InvertWord", n, 1)
		checkList(t, impl.MultiplyWords([]int{n}, []int{-n}), wantReduced([]int{n, -n}), "MultiplyWords", n, -n)
	}
}

func TestProductExamples(t *testing.T) {
	for _, c := range []struct {
		name string
		got  []int
		want string
	}{
		{"abA times aBc", impl.MultiplyWords(word("abA"), word("aBc")), "ac"},
		{"ab times a", impl.MultiplyWords(word("ab"), word("a")), "aba"},
		{"a times the empty word", impl.MultiplyWords(word("a"), nil), "a"},
		{"the empty word times b", impl.MultiplyWords(nil, word("b")), "b"},
		{"aA times bBc", impl.MultiplyWords(word("aA"), word("bBc")), "c"},
		{"inverse of abC", impl.InvertWord(word("abC")), "cBA"},
		{"inverse of aAb, which is not reduced", impl.InvertWord(word("aAb")), "BaA"},
		{"commutator of a and b", impl.CommutatorOf(word("a"), word("b")), "abAB"},
		{"commutator of ab and a", impl.CommutatorOf(word("ab"), word("a")), "abaBAA"},
		{"commutator of a and aa", impl.CommutatorOf(word("a"), word("aa")), ""},
		{"commutator of a and nothing", impl.CommutatorOf(word("a"), nil), ""},
		{"a conjugated by b", impl.ConjugateWord(word("a"), word("b")), "Bab"},
		{"a conjugated by bc", impl.ConjugateWord(word("a"), word("bc")), "CBabc"},
		{"a conjugated by a", impl.ConjugateWord(word("a"), word("a")), "a"},
		{"baB conjugated by b", impl.ConjugateWord(word("baB"), word("b")), "a"},
		{"nothing conjugated by ab", impl.ConjugateWord(nil, word("ab")), ""},
	} {
		checkList(t, c.got, word(c.want), c.name)
	}
}

// The edge case of this chapter: a product that cancels completely.
func TestProductCancels(t *testing.T) {
	long := make([]int, 100000)
	for i := range long {
		long[i] = []int{1, 2, -1, 3, -2, 7}[i%6]
	}
	words := append(reducedWords(2, 4), word(strings.Repeat("abC", 8)), []int{4, 5, math.MaxInt}, long)
	for _, w := range words {
		inverse := impl.InvertWord(w)
		if len(inverse) != len(w) {
			t.Fatalf("InvertWord has %d letters for %d", len(inverse), len(w))
		}
		for _, got := range [][]int{
			impl.MultiplyWords(w, inverse),
			impl.MultiplyWords(inverse, w),
			impl.ReduceLetters(slices.Concat(w, inverse)),
			impl.CommutatorOf(w, inverse),
			impl.CommutatorOf(w, w),
			impl.ConjugateWord(nil, w),
		} {
			if len(got) != 0 {
				t.Errorf("a product of a word with %d letters and its inverse has %d letters", len(w), len(got))
			}
		}
		if got := impl.ConjugateWord(w, w); !slices.Equal(got, w) {
			t.Errorf("a word with %d letters conjugated by itself has %d", len(w), len(got))
		}
	}
}

func TestPowerWord(t *testing.T) {
	lists := append(listsOver([]int{0, 1, -1, 2, math.MinInt}, 3), word("abA"), word("abcCBA"), word("abcABC"), word(strings.Repeat("ab", 12)))
	for _, w := range lists {
		for k := -30; k <= 30; k++ {
			var want []int
			if k >= 0 && k <= 24 {
				want = wantReduced(slices.Repeat(w, k))
			} else if k < 0 && k >= -24 {
				want = wantReduced(slices.Repeat(wantInvert(w), -k))
			}
			checkList(t, impl.PowerWord(w, k), want, "PowerWord", w, k)
		}
	}
}

func TestPowerWordExamples(t *testing.T) {
	for _, c := range []struct {
		w    string
		k    int
		want string
	}{
		{"a", 0, ""},
		{"a", 1, "a"},
		{"a", -1, "A"},
		{"aAb", 1, "b"},
		{"abA", 3, "abbbA"},
		{"abA", -2, "aBBA"},
		{"ab", -2, "BABA"},
		{"", 5, ""},
		{"a", 24, strings.Repeat("a", 24)},
		{"a", -24, strings.Repeat("A", 24)},
		{"ab", 24, strings.Repeat("ab", 24)},
		{"a", 25, ""},
		{"a", -25, ""},
		{"a", 1 << 32, ""},
		{"a", 1<<32 + 1, ""},
		{"a", math.MaxInt, ""},
		{"a", -math.MaxInt, ""},
		{"a", math.MinInt, ""},
	} {
		checkList(t, impl.PowerWord(word(c.w), c.k), word(c.want), "PowerWord", c.w, c.k)
	}
}

// 0 and the least int are left out here, since they have no inverses.
func TestWordsFormGroup(t *testing.T) {
	words := append(reducedWords(2, 2), reducedWords(3, 1)...)
	words = append(words, word("abA"), word("aBcA"), word("ccc"), []int{4, -1}, []int{math.MaxInt, 1})
	for _, a := range words {
		checkList(t, impl.MultiplyWords(a, nil), a, "MultiplyWords", a, "nothing")
		checkList(t, impl.MultiplyWords(nil, a), a, "MultiplyWords", "nothing", a)
		checkList(t, impl.InvertWord(impl.InvertWord(a)), a, "InvertWord twice", a)
		for _, b := range words {
			ab := impl.MultiplyWords(a, b)
			if !isReduced(ab) {
				t.Errorf("MultiplyWords(%v, %v) = %v is not reduced", a, b, ab)
			}
			checkList(t, impl.InvertWord(ab), impl.MultiplyWords(impl.InvertWord(b), impl.InvertWord(a)), "inverse of the product", a, b)
			for _, c := range words {
				checkList(t, impl.MultiplyWords(ab, c), impl.MultiplyWords(a, impl.MultiplyWords(b, c)), "product", a, b, c)
				checkList(t, impl.ConjugateWord(ab, c), impl.MultiplyWords(impl.ConjugateWord(a, c), impl.ConjugateWord(b, c)), "conjugate of a product", a, b, c)
				checkList(t, impl.ConjugateWord(impl.ConjugateWord(a, b), c), impl.ConjugateWord(a, impl.MultiplyWords(b, c)), "conjugate by a product", a, b, c)
			}
		}
	}
}

func TestPowersAdd(t *testing.T) {
	for _, w := range append(reducedWords(2, 2), word("abA"), word("abAB"), word("cabC")) {
		checkList(t, impl.PowerWord(w, 1), w, "PowerWord", w, 1)
		for m := -12; m <= 12; m++ {
			for n := -12; n <= 12; n++ {
				product := impl.MultiplyWords(impl.PowerWord(w, m), impl.PowerWord(w, n))
				checkList(t, product, impl.PowerWord(w, m+n), "product of powers", w, m, n)
			}
		}
	}
}

func TestCompareWords(t *testing.T) {
	for _, numbers := range [][]int{numbersInOrder(), {0, 1, -1, 2, -2, math.MinInt}} {
		most := 1
		if len(numbers) < 10 {
			most = 3
		}
		lists := listsOver(numbers, most)
		for i, a := range lists {
			for k, b := range lists {
				want := 0
				if i < k {
					want = -1
				} else if i > k {
					want = 1
				}
				if got := impl.CompareWords(a, b); got != want {
					t.Errorf("CompareWords(%v, %v) = %d, want %d", a, b, got, want)
				}
			}
		}
	}
}

func TestCompareWordsExamples(t *testing.T) {
	for _, c := range []struct {
		a    []int
		b    []int
		want int
	}{
		{nil, nil, 0},
		{nil, []int{}, 0},
		{nil, []int{0}, -1},
		{word("b"), word("ab"), -1},
		{word("C"), word("aa"), -1},
		{word("A"), word("a"), 1},
		{word("A"), word("b"), -1},
		{word("abC"), word("abc"), 1},
		{word("aBa"), word("abC"), 1},
		{[]int{math.MinInt}, []int{1, 1}, -1},
		{[]int{math.MinInt, 1}, []int{math.MaxInt, -1}, 1},
		{[]int{math.MinInt, 1}, []int{-math.MaxInt, -1}, 1},
		{[]int{math.MinInt, 0}, []int{0, math.MinInt}, 1},
	} {
		if got := impl.CompareWords(c.a, c.b); got != c.want {
			t.Errorf("CompareWords(%v, %v) = %d, want %d", c.a, c.b, got, c.want)
		}
		if got := impl.CompareWords(c.b, c.a); got != -c.want {
			t.Errorf("CompareWords(%v, %v) = %d, want %d", c.b, c.a, got, -c.want)
		}
	}
}

func TestEqualWords(t *testing.T) {
	lists := append(listsOver([]int{0, 1, -1, 2}, 3), listsOver(numbersInOrder(), 1)...)
	for _, a := range lists {
		for _, b := range lists {
			if got := impl.EqualWords(a, b); got != slices.Equal(a, b) {
				t.Errorf("EqualWords(%v, %v) = %t", a, b, got)
			}
		}
	}
	if !impl.EqualWords(nil, []int{}) || !impl.EqualWords([]int{}, nil) {
		t.Error("a nil list is not equal to an empty one")
	}
	if impl.EqualWords(word("aA"), nil) || impl.EqualWords(word("abB"), word("a")) {
		t.Error("lists that have the same product, but not the same numbers, are equal")
	}
}

func wantFormatWord(w []int) string {
	if len(w) == 0 {
		return "1"
	}
	s := ""
	for _, n := range w {
		name, ok := map[int]string{1: "a", 2: "b", 3: "c", -1: "A", -2: "B", -3: "C"}[n]
		if !ok {
			return ""
		}
		s += name
	}
	return s
}

func TestFormatWord(t *testing.T) {
	lists := append(listsOver([]int{0, 1, -1, 2, -2, 3, -3, 4, -4, math.MinInt}, 3), listsOver(numbersInOrder(), 2)...)
	for n := -300; n <= 300; n++ {
		lists = append(lists, []int{n}, []int{1, n}, []int{n, 1})
	}
	for _, w := range lists {
		if got, want := impl.FormatWord(w), wantFormatWord(w); got != want {
			t.Errorf("FormatWord(%v) = %q, want %q", w, got, want)
		}
	}
	long := strings.Repeat("abBAcC", 100)
	if got := impl.FormatWord(word(long)); got != long {
		t.Errorf("FormatWord of a list that is no word = %q", got)
	}
}

func checkParseWord(t *testing.T, rank int, s string, want []int, wantOk bool) {
	t.Helper()
	if w, ok := impl.ParseWord(rank, s); !slices.Equal(w, want) || ok != wantOk {
		t.Errorf("ParseWord(%d, %q) = %v, %t, want %v, %t", rank, s, w, ok, want, wantOk)
	}
}

// Exactly the formats of words are parsed, to the words of which they are the formats.
func TestParseWord(t *testing.T) {
	words := map[string][]int{}
	for _, w := range reducedWords(3, 4) {
		words[impl.FormatWord(w)] = w
	}
	texts := append(stringsOver("abcABC", 4), stringsOver("aBcC1dD 0\x00\xff", 3)...)
	texts = append(texts, stringsOver(everyByte(), 1)...)
	for i := range 256 {
		texts = append(texts, "a"+everyByte()[i:i+1], everyByte()[i:i+1]+"b")
	}
	for _, rank := range sampleRanks() {
		for _, s := range texts {
			w, ok := words[s]
			if ok && wantIsWord(rank, w) {
				checkParseWord(t, rank, s, w, true)
			} else {
				checkParseWord(t, rank, s, nil, false)
			}
		}
	}
}

func TestParseWordLength(t *testing.T) {
	for _, unit := range []string{"a", "C", "aBc", "abAB"} {
		s := strings.Repeat(unit, 30)
		for n := 1; n <= len(s); n++ {
			if n <= 24 {
				checkParseWord(t, 3, s[:n], word(s[:n]), true)
			} else {
				checkParseWord(t, 3, s[:n], nil, false)
			}
		}
	}
	checkParseWord(t, 3, strings.Repeat("ab", 100000), nil, false)
}

func TestParseWordExamples(t *testing.T) {
	checkParseWord(t, 2, "1", nil, true)
	checkParseWord(t, 1, "aaa", []int{1, 1, 1}, true)
	checkParseWord(t, 2, "abAB", []int{1, 2, -1, -2}, true)
	checkParseWord(t, 3, "Cab", []int{-3, 1, 2}, true)
	for _, s := range []string{
		"", "aA", "Aa", "abBA", "d", "D", "c", "C", "abc", "1a", "a1", "11", "0", "a b", " a", "a ", " ", "a\n", "\n1", "1 ", "a\x00", "\x00",
		"none", "a,b", "a-1", "1,2", "é", "ａ", "aé", "а", "\xff", "a\xe1",
	} {
		checkParseWord(t, 2, s, nil, false)
	}
	for _, s := range []string{"1", "a", "A"} {
		for _, rank := range []int{math.MinInt, -1, 0, 4, math.MaxInt} {
			checkParseWord(t, rank, s, nil, false)
		}
	}
}

func TestWordFormatsInverse(t *testing.T) {
	words := append(reducedWords(3, 4), reducedWords(2, 6)...)
	words = append(words, word(strings.Repeat("a", 24)), word(strings.Repeat("bC", 12)), word(strings.Repeat("abcABC", 4)))
	for _, w := range words {
		s := impl.FormatWord(w)
		checkParseWord(t, 3, s, w, true)
		if slices.Contains(w, 3) || slices.Contains(w, -3) {
			checkParseWord(t, 2, s, nil, false)
		} else {
			checkParseWord(t, 2, s, w, true)
		}
	}
}

// withRoom returns a copy of w with unused capacity, and the whole of its memory.
func withRoom(w []int) ([]int, []int) {
	memory := append(slices.Clone(w), 77, 77, 77, 77, 77, 77)
	return memory[:len(w)], memory
}

// Arguments keep their elements and unused capacity, and a change to a result changes no argument and no later result.
func TestWordsShareNoMemory(t *testing.T) {
	for _, pair := range [][2][]int{{nil, nil}, {word("ab"), nil}, {nil, word("ab")}, {word("abA"), word("aBc")}, {word("c"), word("abb")}, {{0, math.MinInt, 5}, {-5, 7}}} {
		a, memoryA := withRoom(pair[0])
		b, memoryB := withRoom(pair[1])
		wantA, wantB := slices.Clone(memoryA), slices.Clone(memoryB)
		calls := []func() []int{
			func() []int { return impl.ReduceLetters(a) },
			func() []int { return impl.MultiplyWords(a, b) },
			func() []int { return impl.InvertWord(a) },
			func() []int { return impl.PowerWord(a, 1) },
			func() []int { return impl.PowerWord(a, -1) },
			func() []int { return impl.PowerWord(a, 3) },
			func() []int { return impl.PowerWord(a, 0) },
			func() []int { return impl.CommutatorOf(a, b) },
			func() []int { return impl.ConjugateWord(a, b) },
			func() []int { w, _ := impl.ParseWord(3, "abC"); return w },
		}
		for i, call := range calls {
			got := call()
			want := slices.Clone(got)
			for k := range got {
				got[k] = 55
			}
			_ = append(got, 55, 55)
			checkList(t, call(), want, "the same call again", i, a, b)
		}
		impl.IsWord(3, a)
		impl.FormatWord(a)
		impl.CompareWords(a, b)
		impl.EqualWords(a, b)
		checkList(t, memoryA, wantA, "first argument", pair)
		checkList(t, memoryB, wantB, "second argument", pair)
	}
}
