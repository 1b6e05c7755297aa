package litmus_test

import (
	"math"
	"reflect"
	"strings"
	"testing"

	"litmus/litmus"
)

var (
	wildTexts = []string{
		"", " ", "\x00", "\xff\xfe", "Rfe", "Rfe ", "é", "PWW Rfe PRR Fre", "Fre PWR Fre PWR",
		"PWW Coe Coe PWW Coe", "PWW Rfe PWR Fre", "litmus x\nP0: a=1\nwant a=1\n", "litmus \nwant\n",
		strings.Repeat("PWR Fre ", 7) + "PWR Fre", strings.Repeat("Coe ", 16),
		strings.Repeat("\n", 4097), strings.Repeat("PWR Fre ", 1<<17),
	}
	wildNumbers = []int{math.MinInt, -4001, -1, 0, 1, 2, 4, 6, 7, 4000, 4001, math.MaxInt}
	wildScripts = [][]int{nil, {}, {0}, {1, 0, 5}, {-1, math.MinInt, math.MaxInt}, make([]int, 5000)}
)

func wildTests() []litmus.Test {
	list := []litmus.Test{
		{},
		{Code: [][]litmus.Ins{}, Want: []litmus.Claim{}},
		{Code: [][]litmus.Ins{nil, {}}},
		{Name: "a\nb", Code: [][]litmus.Ins{{{Op: 3}}}},
		{Name: strings.Repeat("n", 64), Code: [][]litmus.Ins{{{Op: 3}}}},
		{Name: "sound", Code: [][]litmus.Ins{{{Op: 1, Cell: 0, Val: 1}, {Op: 3}, {Op: 2, Reg: 0, Cell: 1}}, {{Op: 1, Cell: 1, Val: 1}}},
			Want: []litmus.Claim{{Thread: 0, Reg: 0, Val: 1}, {Thread: -1, Cell: 1, Val: 1}}},
		{Code: make([][]litmus.Ins, 1000), Want: make([]litmus.Claim, 1000)},
	}
	for _, n := range wildNumbers {
		list = append(list,
			litmus.Test{Code: [][]litmus.Ins{{{Op: n}}}},
			litmus.Test{Code: [][]litmus.Ins{{{Op: 1, Cell: n, Val: n}}}},
			litmus.Test{Code: [][]litmus.Ins{{{Op: 2, Reg: n, Cell: n}}}},
			litmus.Test{Code: [][]litmus.Ins{{{Op: 3}}}, Want: []litmus.Claim{{n, n, n, n}}})
	}
	return list
}

// callAll makes every call at wild arguments. A row of the answer holds one
// call's error, then its place, or 0 if it has none, then its other results.
func callAll(tests []litmus.Test) [][]any {
	var rows [][]any
	for _, s := range wildTexts {
		e, at := litmus.Check(s)
		rows = append(rows, []any{e, at})
		b, e, at := litmus.Base(s)
		rows = append(rows, []any{e, at, b})
		t, e, at := litmus.Build(s)
		rows = append(rows, []any{e, at, t})
		t, e, at = litmus.Parse(s)
		rows = append(rows, []any{e, at, t})
		l, e, at := litmus.Script(s)
		rows = append(rows, []any{e, at, l})
		for _, n := range wildNumbers {
			holds, e, at := litmus.Label(s, n)
			rows = append(rows, []any{e, at, holds})
		}
	}
	for _, n := range wildNumbers {
		for _, most := range wildNumbers {
			l, e := litmus.All(n, most)
			rows = append(rows, []any{e, 0, l})
		}
	}
	for _, t := range tests {
		s, e := litmus.Print(t)
		rows = append(rows, []any{e, 0, s})
		for _, n := range wildNumbers {
			for _, script := range wildScripts {
				l, holds, e := litmus.Play(t, n, script)
				rows = append(rows, []any{e, 0, l, holds})
			}
		}
	}
	return rows
}

func TestEveryCallEnds(t *testing.T) {
	for i, row := range callAll(wildTests()) {
		if row[0] == litmus.OK {
			if row[1] != 0 {
				t.Errorf("P1: row %d: place %v beside OK", i, row[1])
			}
			continue
		}
		for _, result := range row[2:] {
			if !reflect.ValueOf(result).IsZero() {
				t.Errorf("P1: row %d: %v beside error %d", i, result, row[0])
			}
		}
	}
}

func TestErrorNamedFirst(t *testing.T) {
	for _, c := range []struct {
		text string
		e    litmus.Errno
	}{
		{strings.Repeat("Rfx ", 16), litmus.ErrLong}, // and ErrEdge
		{"Rfe Rfe Rf", litmus.ErrEdge},               // and edges that do not join
		{"Rfe PWW", litmus.ErrJoin},                  // and ErrThreads, ErrCells
		{"Coi Coi Coi", litmus.ErrThreads},           // and ErrCells
		{"PWW PWW Coi Coi", litmus.ErrThreads},       // and ErrWrites
		{"Coe Coe Coe", litmus.ErrCells},             // and ErrWrites
	} {
		if e, _ := litmus.Check(c.text); e != c.e {
			t.Errorf("P1: Check(%.80q) = %d, want %d", c.text, e, c.e)
		}
		if b, e, _ := litmus.Base(c.text); e != c.e || b != "" {
			t.Errorf("P1: Base(%.80q) = %q, %d, want %d", c.text, b, e, c.e)
		}
		if b, e, _ := litmus.Build(c.text); e != c.e || !reflect.DeepEqual(b, litmus.Test{}) {
			t.Errorf("P1: Build(%.80q) = %+v, %d, want %d", c.text, b, e, c.e)
		}
		if yes, e, _ := litmus.Label(c.text, 2); e != c.e || yes { // and ErrModel
			t.Errorf("P1: Label(%.80q, 2) = %v, %d, want %d", c.text, yes, e, c.e)
		}
		if l, e, _ := litmus.Script(c.text); e != c.e || l != nil {
			t.Errorf("P1: Script(%.80q) = %v, %d, want %d", c.text, l, e, c.e)
		}
	}
	if l, e := litmus.All(7, 0); l != nil || e != litmus.ErrRange {
		t.Errorf("P1: All(7, 0) = %q, %d, want ErrRange", l, e)
	}
	if x, e, at := litmus.Parse(strings.Repeat("\n", 4097)); e != litmus.ErrLong || at != 0 || !reflect.DeepEqual(x, litmus.Test{}) {
		t.Errorf("P1: Parse of 4097 bytes = %+v, %d, %d, want ErrLong", x, e, at)
	}
	if l, all, e := litmus.Play(litmus.Test{}, 2, nil); l != nil || all || e != litmus.ErrTest {
		t.Errorf("P1: Play(Test{}, 2, nil) = %v, %v, %d, want ErrTest", l, all, e)
	}
}

func TestAnswersHangOnArgumentsAlone(t *testing.T) {
	given := wildTests()
	first := callAll(given)
	again := callAll(given)
	if !reflect.DeepEqual(first, again) {
		t.Error("P2: the same calls answered otherwise the second time")
	}
	if !reflect.DeepEqual(given, wildTests()) {
		t.Error("P2: a call changed a test that it was given")
	}
	if !reflect.DeepEqual(wildScripts[:5], [][]int{nil, {}, {0}, {1, 0, 5}, {-1, math.MinInt, math.MaxInt}}) {
		t.Error("P2: a call changed a script that it was given")
	}
}

func TestAnswersAreNew(t *testing.T) {
	first, _ := litmus.All(4, 4000)
	kept := strings.Join(first, "\n")
	again, _ := litmus.All(4, 4000)
	for i := range again {
		again[i] = "x"
	}
	if strings.Join(first, "\n") != kept {
		t.Error("P2: a list changed when a later one was written over")
	}
	if third, _ := litmus.All(4, 4000); strings.Join(third, "\n") != kept {
		t.Error("P2: a list that was written over changed a later answer")
	}
}
