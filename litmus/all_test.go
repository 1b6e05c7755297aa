package litmus_test

import (
	"math"
	"slices"
	"testing"

	"litmus/litmus"
)

func TestAllLists(t *testing.T) {
	var want []string
	for n := range 6 {
		if n > 0 {
			want = append(want, wantAll(n)...)
		}
		for _, most := range []int{len(want), len(want) + 1, 4000} {
			if l, e := litmus.All(n, most); !slices.Equal(l, want) || e != litmus.OK {
				t.Errorf("P5: All(%d, %d): %d listed, %d, want %d listed: %q", n, most, len(l), e, len(want), want)
			}
		}
		for _, most := range []int{0, 1, len(want) / 2, len(want) - 1} {
			if most < 0 || most >= len(want) {
				continue
			}
			if l, e := litmus.All(n, most); l != nil || e != litmus.ErrMany {
				t.Errorf("P5: All(%d, %d): %d listed, %d, want ErrMany", n, most, len(l), e)
			}
		}
	}
	if len(want) != 613 {
		t.Errorf("P5: %d bases of at most 5 edges, want 613", len(want))
	}
}

// There are more bases of at most 6 edges than a list may have.
func TestAllOfSixEdges(t *testing.T) {
	if n := len(wantAll(6)); n <= 4000 {
		t.Fatalf("%d bases of 6 edges", n)
	}
	for _, most := range []int{0, 613, 614, 3999, 4000} {
		if l, e := litmus.All(6, most); l != nil || e != litmus.ErrMany {
			t.Errorf("P5: All(6, %d): %d listed, %d, want ErrMany", most, len(l), e)
		}
	}
}

func TestAllRange(t *testing.T) {
	for _, c := range [][2]int{
		{-1, 0}, {7, 0}, {7, 4000}, {0, -1}, {0, 4001}, {6, 4001}, {6, -1}, {-1, -1},
		{math.MinInt, 0}, {math.MaxInt, 4000}, {4, math.MinInt}, {4, math.MaxInt},
	} {
		if l, e := litmus.All(c[0], c[1]); l != nil || e != litmus.ErrRange {
			t.Errorf("P5: All(%d, %d): %d listed, %d, want ErrRange", c[0], c[1], len(l), e)
		}
	}
}
