package litmus_test

import (
	"strings"
	"testing"

	"litmus/litmus"
)

func checkOne(t *testing.T, text string) litmus.Errno {
	t.Helper()
	wantErr, wantAt := wantCheck(text)
	if e, at := litmus.Check(text); e != wantErr || at != wantAt {
		t.Errorf("P3: Check(%.80q) = %d, %d, want %d, %d", text, e, at, wantErr, wantAt)
	}
	return wantErr
}

func TestCheckTable(t *testing.T) {
	for _, c := range []struct {
		text string
		e    litmus.Errno
		at   int
	}{
		// ordinary cycles
		{"PWW Rfe PRR Fre", litmus.OK, 0},
		{"PWR Fre PWR Fre", litmus.OK, 0},
		{"PRW Rfe PRW Rfe", litmus.OK, 0},
		{"FWW Coe FWW Coe", litmus.OK, 0},
		{"Rfi PRR Fre Rfi PRR Fre", litmus.OK, 0},
		{"PWW PWW Rfe Fre", litmus.OK, 0},
		// 16 edges, 63 bytes: the greatest
		{strings.Repeat("PWR Fre ", 7) + "PWR Fre", litmus.OK, 0},
		{strings.Repeat("PWR Fre ", 8), litmus.ErrLong, 0},
		{strings.Repeat("PWR Fre ", 8) + "PWR", litmus.ErrLong, 0},
		{strings.Repeat("x", 63), litmus.ErrEdge, 0},
		{strings.Repeat("x", 64), litmus.ErrLong, 0},
		// not made of edges
		{"", litmus.ErrEdge, 0},
		{" ", litmus.ErrEdge, 0},
		{" PWW", litmus.ErrEdge, 0},
		{"W", litmus.ErrEdge, 0},
		{"F", litmus.ErrEdge, 1},
		{"Fr", litmus.ErrEdge, 2},
		{"FR", litmus.ErrEdge, 2},
		{"FRe", litmus.ErrEdge, 2},
		{"FrW", litmus.ErrEdge, 2},
		{"Pr", litmus.ErrEdge, 1},
		{"Cf", litmus.ErrEdge, 1},
		{"Ro", litmus.ErrEdge, 1},
		{"Coe\tCoe", litmus.ErrEdge, 3},
		{"Coe Coe\n", litmus.ErrEdge, 7},
		{"Coe Coe ", litmus.ErrEdge, 8},
		{"Coe Co", litmus.ErrEdge, 6},
		{"rfe", litmus.ErrEdge, 0},
		{"Rf\x00", litmus.ErrEdge, 2},
		{"Rf\xff", litmus.ErrEdge, 2},
		{"Rfé", litmus.ErrEdge, 2},
		// the first wrong byte counts, whatever follows, and ahead of edges that do not join
		{"Rfe Rfe Rfx Rfx", litmus.ErrEdge, 10},
		// edges that do not join: the first such one, the number 0 too
		{"Rfe", litmus.ErrJoin, 0},
		{"Rfe Rfe", litmus.ErrJoin, 0},
		{"PWR PWR PRW", litmus.ErrJoin, 1},
		{"PWW Rfe Rfe Fre", litmus.ErrJoin, 2},
		{"PWW Coe Rfe PWW", litmus.ErrJoin, 3},
		// too few edges between threads, named ahead of too few between cells
		{"Coi", litmus.ErrThreads, 0},
		{"PWW PWW", litmus.ErrThreads, 0},
		{"PWW PWW Coe", litmus.ErrThreads, 0},
		{"PWW PWW Coi Coi Coi", litmus.ErrThreads, 0},
		// too few edges between cells, named ahead of too many writes
		{"Coe Coe", litmus.ErrCells, 0},
		{"FWW Coe Coe", litmus.ErrCells, 0},
		{"Coe Coe Coe Coe", litmus.ErrCells, 0},
		// writes: two of a cell are well, three are not, wherever the text begins
		{"PWW Coe PWW Coe", litmus.OK, 0},
		{"PWW Coe Coi PWW Coe", litmus.ErrWrites, 0},
		{"Coi PWW Coe PWW Coe", litmus.ErrWrites, 0},
		{"Coe Coi PWW Coe PWW", litmus.ErrWrites, 0},
		{"PWW Rfe Fre PWW Coe", litmus.OK, 0},
		{"PWW PWW Coe Coe", litmus.ErrWrites, 0},
		{"PWW Rfe Fre Rfi Fri PWW Coe", litmus.ErrWrites, 0},
	} {
		if e, at := litmus.Check(c.text); e != c.e || at != c.at {
			t.Errorf("P3: Check(%.80q) = %d, %d, want %d, %d", c.text, e, at, c.e, c.at)
		}
	}
}

func TestCheckAllShortTexts(t *testing.T) {
	list := []string{""}
	for range 5 {
		var longer []string
		for _, s := range list {
			checkOne(t, s)
			for _, b := range "RFCPWfroei x" {
				longer = append(longer, s+string(b))
			}
		}
		list = longer
	}
}

func TestCheckOneByteAmiss(t *testing.T) {
	for _, s := range []string{"PWW Rfe PRR Fre", "Coi FWR Fri Coe PWR Fre"} {
		for at := range len(s) {
			checkOne(t, s[:at])
			checkOne(t, s[:at]+s[at+1:])
			for b := range 256 {
				one := string([]byte{byte(b)})
				checkOne(t, s[:at]+one+s[at+1:])
				checkOne(t, s[:at]+one+s[at:])
				checkOne(t, s+one)
			}
		}
	}
}

func TestCheckAllOfFewEdges(t *testing.T) {
	for n := 1; n <= 4; n++ {
		for _, s := range texts(n, false) {
			checkOne(t, s)
		}
	}
	for _, s := range texts(5, true) {
		checkOne(t, s)
	}
}

func TestCheckSomeOfManyEdges(t *testing.T) {
	met := map[litmus.Errno]int{}
	for _, s := range someTexts(60000) {
		met[checkOne(t, s)]++
	}
	for _, e := range []litmus.Errno{litmus.OK, litmus.ErrJoin, litmus.ErrThreads, litmus.ErrCells, litmus.ErrWrites} {
		if met[e] < 100 {
			t.Errorf("the texts meet error %d only %d times", e, met[e])
		}
	}
}
