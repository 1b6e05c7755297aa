package litmus_test

import (
	"math"
	"reflect"
	"slices"
	"strings"
	"testing"

	"litmus/litmus"
)

// wrongModels are numbers of no machine.
var wrongModels = []int{math.MinInt, -2, -1, 2, 3, 1 << 32, math.MaxInt}

// labelOne compares Label and Script with all plays of Build's test, and
// answers whether one of the machine with buffers shows the cycle.
func labelOne(t *testing.T, text string) bool {
	t.Helper()
	b, e, _ := litmus.Build(text)
	if e != litmus.OK {
		t.Fatalf("P6: Build(%q): %d", text, e)
	}
	shown := false
	for model := range 2 {
		found, want := wantScript(b, model)
		shown = want
		if model == 0 && want {
			t.Errorf("P12: %q is shown at model 0 by %v", text, found)
		}
		if _, all, _ := litmus.Play(b, model, found); want && !all {
			t.Errorf("P10: Play of %q at model %d with %v: not all claims hold", text, model, found)
		}
		if yes, e, at := litmus.Label(text, model); yes != want || e != litmus.OK || at != 0 {
			t.Errorf("P11: Label(%q, %d) = %v, %d, %d, want %v", text, model, yes, e, at, want)
		}
	}
	scriptOne(t, text, b, shown)
	return shown
}

// scriptOne compares Script with what P13 asks for, where shown says whether there is a script.
func scriptOne(t *testing.T, text string, b litmus.Test, shown bool) {
	t.Helper()
	script, e, at := litmus.Script(text)
	if !shown {
		if script != nil || e != litmus.ErrNone || at != 0 {
			t.Errorf("P13: Script(%q) = %v, %d, %d, want ErrNone", text, script, e, at)
		}
		return
	}
	if e != litmus.OK || at != 0 || len(script) > 64 || slices.ContainsFunc(script, func(k int) bool { return k < 0 }) {
		t.Errorf("P13: Script(%q) = %v, %d, %d", text, script, e, at)
	}
	if _, all, e := litmus.Play(b, 1, script); !all || e != litmus.OK {
		t.Errorf("P13: Script(%q) = %v does not show it", text, script)
	}
	if _, all := wantPlay(b, 1, script); !all {
		t.Errorf("P13: Script(%q) = %v does not show it on the second machine", text, script)
	}
}

func TestLabelTable(t *testing.T) {
	for _, c := range []struct {
		cycle string
		yes   bool // at model 1
	}{
		// a load passes stores that wait, and nothing else passes
		{"PWR Fre PWR Fre", true}, {"PWW Rfe PRR Fre", false}, {"PRW Rfe PRW Rfe", false},
		{"PWW Coe PWW Coe", false}, {"PWR Fre PWW Coe", true}, {"Rfe PRR Fre Rfe PRR Fre", false},
		// one fence of two is not enough, unless the other thread keeps its order by itself
		{"FWR Fre PWR Fre", true}, {"FWR Fre FWR Fre", false}, {"FWR Fre PWW Coe", false}, {"PWR Fre FWW Coe", true},
		// its own store is read while it waits
		{"Rfi PRR Fre Rfi PRR Fre", true}, {"Rfi FRR Fre Rfi FRR Fre", false}, {"Rfi PRR Fre PWR Fre", true},
		{"Rfi PRW Coe Rfi PRW Coe", false}, {"Rfi PRR Fri Rfe PRR Fre", false},
		// two stores of a cell wait, the load passes both
		{"Coi PWR Fre PWR Fre", true}, {"PWR Fri Coe PWR Fre", true}, {"PWR Fri Coe FWR Fre", false},
		// a load between two stores lets the later one pass no more than without it
		{"PWR PRW Coe PWW Coe", false}, {"PWR PRR Fre PWR Fre", true}, {"PWR FRR Fre PWR Fre", true},
		{"PWR FRR Fre FWR Fre", false}, {"PWW PWR Fre PWR Fre", true},
		// a thread that comes back to a cell behind another one
		{"PWW PWW Rfe Fre", false}, {"PWR PRW Rfe Fre", false}, {"PWR PRR Fre Coe", false}, {"PRW PWR Fre Rfe", false},
	} {
		if yes := labelOne(t, c.cycle); yes != c.yes {
			t.Errorf("the plays of %q tell %v, want %v", c.cycle, yes, c.yes)
		}
		for model := range 2 {
			if yes, e, at := litmus.Label(c.cycle, model); yes != (c.yes && model == 1) || e != litmus.OK || at != 0 {
				t.Errorf("P11: Label(%q, %d) = %v, %d, %d", c.cycle, model, yes, e, at)
			}
		}
	}
}

func TestLabelErrors(t *testing.T) {
	cycles := append(someTexts(3000), texts(3, false)...)
	cycles = append(cycles, wildTexts...)
	cycles = append(cycles, "PWW Rfe PWR Fre", "PWW Rfe PRR Fr", "PWW Rfe PRR Fre ", "PWW Rfe  PRR", "PWW Rfi PRR Fre",
		"Rfe Fre", "Coe Coe PWW PWW Coe", "PWW Coe Coe Coe PWW Coe", "PWR Fre PWR Fre", strings.Repeat("PWR Fre ", 8))
	met := map[litmus.Errno]int{}
	for _, text := range cycles {
		want, place := wantCheck(text)
		met[want]++
		for _, model := range append([]int{0, 1}, wrongModels...) {
			wantErrno, wantAt := want, place
			if want == litmus.OK && model != 0 && model != 1 {
				wantErrno, wantAt = litmus.ErrModel, 0
			}
			yes, e, at := litmus.Label(text, model)
			if e != wantErrno || at != wantAt || yes && e != litmus.OK {
				t.Errorf("P11: Label(%.80q, %d) = %v, %d, %d, want %d, %d", text, model, yes, e, at, wantErrno, wantAt)
			}
		}
		if want == litmus.OK {
			continue
		}
		if script, e, at := litmus.Script(text); script != nil || e != want || at != place {
			t.Errorf("P13: Script(%.80q) = %v, %d, %d, want %d, %d", text, script, e, at, want, place)
		}
	}
	for e := litmus.OK; e <= litmus.ErrWrites; e++ {
		if met[e] == 0 {
			t.Errorf("no text with error %d was tried", e)
		}
	}
}

func TestLabelAllOfFewEdges(t *testing.T) {
	shown := map[int]int{}
	for n := 4; n <= 6; n++ {
		for _, text := range wantAll(n) {
			if labelOne(t, text) {
				shown[n]++
			}
		}
	}
	if !reflect.DeepEqual(shown, map[int]int{4: 4, 5: 49, 6: 429}) {
		t.Errorf("the machine with buffers shows %v cycles of 4 to 6 edges", shown)
	}
}

func TestLabelSomeOfManyEdges(t *testing.T) {
	own := append(edgeNames(), "Rfi", "Fri", "Coi", "Rfi", "Fri", "Coi", "PWR", "PWR", "PRR", "PRW")
	loads := []string{"PWR", "PWR", "PWR", "PRR", "Rfi", "Fre", "Fre", "Coe", "FWR", "FWR", "PWW", "PWW", "Coe", "Rfe", "PRW"}
	for i, names := range [][]string{edgeNames(), own, loads} {
		met := map[bool]int{}
		for _, text := range someCycles(int64(i), 1000, 7, 13, names) {
			met[labelOne(t, text)]++
		}
		if met[true] < 50 || met[false] < 50 {
			t.Errorf("of some cycles %d are shown, %d are not", met[true], met[false])
		}
	}
	for _, text := range someCycles(9, 100, 14, 16, edgeNames()) {
		labelOne(t, text)
	}
}

// repeated answers a cycle that goes through the same edges again and again, up to 16 of them.
func repeated(edges string) string {
	times := 16 / len(strings.Split(edges, " "))
	return strings.TrimSuffix(strings.Repeat(edges+" ", times), " ")
}

func TestLabelOfTheMost(t *testing.T) {
	for _, c := range []struct {
		cycle string
		yes   bool
	}{
		{repeated("PWR Fre"), true}, {repeated("PRW Rfe"), false}, {repeated("PWW Coe"), false},
		{repeated("Rfi PRR Fre"), true}, {repeated("Rfi PRW Coe"), false}, {repeated("PWR PRR Fre"), true},
		{repeated("FWR Fre"), false}, {repeated("PWR Fre FWR Fre"), true}, {repeated("PWW Rfe PRR Fre"), false},
		{repeated("PWR Fri Coe FWR Fre"), false}, {repeated("PWR Fri Coe PWR Fre"), true}, {repeated("Coi PWR Fre"), true}, {repeated("PRR Fre Rfi"), true},
	} {
		b, _, _ := litmus.Build(c.cycle)
		if yes, e, at := litmus.Label(c.cycle, 1); yes != c.yes || e != litmus.OK || at != 0 {
			t.Errorf("P11: Label(%q, 1) = %v, %d, %d, want %v", c.cycle, yes, e, at, c.yes)
		}
		if yes, e, at := litmus.Label(c.cycle, 0); yes || e != litmus.OK || at != 0 {
			t.Errorf("P12: Label(%q, 0) = %v, %d, %d, want false", c.cycle, yes, e, at)
		}
		scriptOne(t, c.cycle, b, c.yes)
	}
}
