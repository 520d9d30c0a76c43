package tests

import (
	"math"
	"testing"

	"loop.example/g02075/impl"
)

// FormatWords is all of chapter 6 so far: the given test of stage 5 compares lists of loops by it.
func TestFormatWords(t *testing.T) {
	for _, c := range []struct {
		l    [][]int
		want string
	}{
		{nil, "none"},
		{[][]int{}, "none"},
		{[][]int{nil}, "1"},
		{[][]int{{}, nil}, "1,1"},
		{[][]int{{1}}, "a"},
		{[][]int{word("abC"), nil, word("BA")}, "abC,1,BA"},
		{[][]int{word("a"), word("a"), word("aA")}, "a,a,aA"},
		{[][]int{{0}}, ""},
		{[][]int{{4}, {1}}, ""},
		{[][]int{{1}, {-4}}, ""},
		{[][]int{{1}, {2, math.MinInt, 1}, {1}}, ""},
		{[][]int{nil, {1, 0}}, ""},
	} {
		if got := impl.FormatWords(c.l); got != c.want {
			t.Errorf("FormatWords(%v) = %q, want %q", c.l, got, c.want)
		}
	}
	many := make([][]int, 100)
	for i := range many {
		many[i] = make([]int, 100)
		for k := range many[i] {
			many[i][k] = 3
		}
	}
	if got := impl.FormatWords(many); len(got) != 100*101-1 {
		t.Errorf("FormatWords of %d words has %d bytes", len(many), len(got))
	}
}
