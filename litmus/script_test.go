package litmus_test

import (
	"reflect"
	"slices"
	"strings"
	"testing"

	"litmus/litmus"
)

// Of 16 edges there are too many plays to try them all for many cycles. But a
// script that shows a cycle speaks for itself, and Label has to agree with it.
func TestScriptSomeOfManyEdges(t *testing.T) {
	long := append(edgeNames(), "FWW", "FWW", "FWR", "PWR", "PWR", "Coi", "Rfi")
	met := map[bool]int{}
	for _, text := range someCycles(3, 5000, 12, 16, long) {
		b, _, _ := litmus.Build(text)
		yes, _, _ := litmus.Label(text, 1)
		scriptOne(t, text, b, yes)
		met[yes]++
	}
	if met[true] < 200 || met[false] < 200 {
		t.Errorf("of some cycles %d are shown, %d are not", met[true], met[false])
	}
}

// The plays with the most moves: stores, each behind a fence, in few threads.
func TestScriptOfTheLongestPlays(t *testing.T) {
	for _, text := range []string{
		strings.Repeat("FWW ", 13) + "PWR Fre Coe",
		strings.Repeat("FWW ", 6) + "PWR Fre " + strings.Repeat("FWW ", 6) + "PWR Fre",
		"PWR Fre PWR " + strings.Repeat("FRW FWR ", 6) + "Fre",
		strings.Repeat("FWW ", 12) + "PWR Fre PWR Fre",
	} {
		labelOne(t, text)
	}
}

func TestRotationsAreToldAlike(t *testing.T) {
	var cycles []string
	for n := 4; n <= 5; n++ {
		cycles = append(cycles, wantAll(n)...)
	}
	cycles = append(cycles, someCycles(5, 1000, 6, 16, edgeNames())...)
	cycles = append(cycles, repeated("PWR Fre"), repeated("Rfi PRR Fre"), repeated("PWR Fre FWR Fre"))
	for _, text := range cycles {
		base, _, _ := litmus.Base(text)
		b, _, _ := litmus.Build(text)
		script, scriptErrno, _ := litmus.Script(text)
		for _, turned := range rotations(text) {
			if s, e, at := litmus.Base(turned); s != base || e != litmus.OK || at != 0 {
				t.Errorf("P14: Base(%q) = %q, %d, %d, of a rotation %q", turned, s, e, at, base)
			}
			if x, e, at := litmus.Build(turned); !reflect.DeepEqual(x, b) || e != litmus.OK || at != 0 {
				t.Errorf("P14: Build(%q) = %+v, %d, %d, of a rotation %+v", turned, x, e, at, b)
			}
			for model := -1; model <= 2; model++ {
				want, wantErrno, wantAt := litmus.Label(text, model)
				if yes, e, at := litmus.Label(turned, model); yes != want || e != wantErrno || at != wantAt {
					t.Errorf("P14: Label(%q, %d) = %v, %d, %d, of a rotation %v, %d", turned, model, yes, e, at, want, wantErrno)
				}
			}
			if l, e, at := litmus.Script(turned); !reflect.DeepEqual(l, script) || e != scriptErrno || at != 0 {
				t.Errorf("P14: Script(%q) = %v, %d, %d, of a rotation %v, %d", turned, l, e, at, script, scriptErrno)
			}
		}
	}
}

func TestScriptIsNewMemory(t *testing.T) {
	const cycle = "Rfi PRR Fre Rfi PRR Fre"
	first, _, _ := litmus.Script(cycle)
	kept := slices.Clone(first)
	again, _, _ := litmus.Script(cycle)
	for i := range again {
		again[i] = 99
	}
	if !slices.Equal(first, kept) {
		t.Error("P2: an answer of Script changed when a later one was written over")
	}
	if third, _, _ := litmus.Script(cycle); !slices.Equal(third, kept) || len(third) == 0 {
		t.Error("P2: an answer of Script that was written over changed a later one")
	}
}
