package litmus_test

import (
	"strings"
	"testing"
	"unsafe"

	"litmus/litmus"
)

func baseOne(t *testing.T, text string) {
	t.Helper()
	wantErr, wantAt := wantCheck(text)
	want := ""
	if wantErr == litmus.OK {
		want = wantBase(text)
	}
	if b, e, at := litmus.Base(text); b != want || e != wantErr || at != wantAt {
		t.Errorf("P4: Base(%.80q) = %q, %d, %d, want %q, %d, %d", text, b, e, at, want, wantErr, wantAt)
	}
}

func TestBaseTable(t *testing.T) {
	for _, c := range [][2]string{
		{"PWW Rfe PRR Fre", "Fre PWW Rfe PRR"},
		{"Fre PWW Rfe PRR", "Fre PWW Rfe PRR"},
		// the first edges are the same: a later one decides
		{"Fre PWR Fre FWR", "FWR Fre PWR Fre"},
		{"Coe PWW Coe FWW", "Coe FWW Coe PWW"},
		{"Coe PWW Coe PWW Coe FWW", "Coe FWW Coe PWW Coe PWW"},
		// capitals come ahead of small letters: FWR ahead of Fre
		{"Fre FWR Fre FWR", "FWR Fre FWR Fre"},
		{strings.Repeat("PWR Fre ", 7) + "PWR Fre", strings.Repeat("Fre PWR ", 7) + "Fre PWR"},
	} {
		if b, e, at := litmus.Base(c[0]); b != c[1] || e != litmus.OK || at != 0 {
			t.Errorf("P4: Base(%q) = %q, %d, %d, want %q", c[0], b, e, at, c[1])
		}
	}
}

func TestBaseErrors(t *testing.T) {
	for _, c := range []struct {
		text string
		e    litmus.Errno
		at   int
	}{
		{strings.Repeat("Coe ", 16), litmus.ErrLong, 0},
		{"", litmus.ErrEdge, 0},
		{"PWW Rfe PRR Fre ", litmus.ErrEdge, 16},
		{"PWW Rfe PWR Fre", litmus.ErrJoin, 2},
		{"PWW PWW", litmus.ErrThreads, 0},
		{"Coe Coe", litmus.ErrCells, 0},
		{"PWW Coe Coi PWW Coe", litmus.ErrWrites, 0},
	} {
		if b, e, at := litmus.Base(c.text); b != "" || e != c.e || at != c.at {
			t.Errorf("P4: Base(%.80q) = %q, %d, %d, want error %d, %d", c.text, b, e, at, c.e, c.at)
		}
	}
}

func TestBaseOfFewAndManyEdges(t *testing.T) {
	for n := 1; n <= 5; n++ {
		for _, s := range texts(n, true) {
			baseOne(t, s)
		}
	}
	for _, s := range someTexts(60000) {
		baseOne(t, s)
	}
}

func TestBaseOfRotations(t *testing.T) {
	for _, s := range someTexts(20000) {
		b, e, _ := litmus.Base(s)
		if e != litmus.OK {
			continue
		}
		for _, r := range rotations(s) {
			if c, e, at := litmus.Base(r); c != b || e != litmus.OK || at != 0 {
				t.Errorf("P14: Base(%q) = %q, %d, %d, but Base(%q) = %q", r, c, e, at, s, b)
			}
		}
	}
}

func TestBaseIsNewMemory(t *testing.T) {
	const text = "Fre PWW Rfe PRR"
	bytes := []byte(text)
	b, _, _ := litmus.Base(unsafe.String(&bytes[0], len(bytes)))
	for i := range bytes {
		bytes[i] = '?'
	}
	if b != text {
		t.Errorf("P2: Base's answer became %q when its argument's memory was used anew", b)
	}
}
