package litmus_test

import (
	"fmt"
	"reflect"
	"slices"
	"strings"
	"testing"
	"unsafe"

	"litmus/litmus"
)

// place is an event as the document numbers it.
type place struct {
	into, out    string // the edges to it and from it
	thread, cell int
}

// wantEvents answers the events of a cycle.
func wantEvents(text string) []place {
	names := strings.Split(wantBase(text), " ")
	last, cells := 0, 0
	for i, name := range names {
		if table[name].external {
			last = i
		}
		if table[name].program {
			cells++
		}
	}
	var list []place
	for k := range names {
		var between []string
		for i := range k {
			between = append(between, names[(last+1+i)%len(names)])
		}
		one := place{into: names[(last+k)%len(names)], out: names[(last+1+k)%len(names)]}
		for _, name := range between {
			if table[name].external {
				one.thread++
			}
			if table[name].program {
				one.cell++
			}
		}
		one.cell %= cells
		list = append(list, one)
	}
	return list
}

// wantCellEvents answers the numbers of the events of a cell, in their order.
func wantCellEvents(events []place, cell int) []int {
	n := len(events)
	first := slices.IndexFunc(events, func(v place) bool { return v.cell == cell && table[v.into].program })
	var list []int
	for i := range n {
		if events[(first+i)%n].cell != cell {
			break
		}
		list = append(list, (first+i)%n)
	}
	return list
}

// wantBuild is what Build is asked to answer at a cycle.
func wantBuild(text string) litmus.Test {
	events := wantEvents(text)
	stored, ahead := map[int]int{}, map[int]int{}
	var cellClaims []litmus.Claim
	for cell := range len(events) {
		if !slices.ContainsFunc(events, func(v place) bool { return v.cell == cell }) {
			continue
		}
		val := 0
		for _, i := range wantCellEvents(events, cell) {
			if table[events[i].out].from == 'W' {
				val++
				stored[i] = val
			} else {
				ahead[i] = val
			}
		}
		if val == 2 {
			cellClaims = append(cellClaims, litmus.Claim{Thread: -1, Cell: cell, Val: 2})
		}
	}
	want := litmus.Test{Name: wantBase(text)}
	regs := 0
	for i, v := range events {
		if len(want.Code) == v.thread {
			want.Code = append(want.Code, nil)
			regs = 0
		}
		code := &want.Code[v.thread]
		if v.into[0] == 'F' && v.into[1] != 'r' {
			*code = append(*code, litmus.Ins{Op: 3})
		}
		if val, isWrite := stored[i]; isWrite {
			*code = append(*code, litmus.Ins{Op: 1, Cell: v.cell, Val: val})
			continue
		}
		*code = append(*code, litmus.Ins{Op: 2, Reg: regs, Cell: v.cell})
		if v.into[:2] == "Rf" || v.out[:2] == "Fr" {
			want.Want = append(want.Want, litmus.Claim{Thread: v.thread, Reg: regs, Val: ahead[i]})
		}
		regs++
	}
	want.Want = append(want.Want, cellClaims...)
	return want
}

func buildOne(t *testing.T, text string) {
	t.Helper()
	wantErr, wantAt := wantCheck(text)
	want := litmus.Test{}
	if wantErr == litmus.OK {
		want = wantBuild(text)
	}
	if b, e, at := litmus.Build(text); !reflect.DeepEqual(b, want) || e != wantErr || at != wantAt {
		t.Errorf("P6: Build(%.80q) = %+v, %d, %d, want %+v, %d, %d", text, b, e, at, want, wantErr, wantAt)
	}
}

func TestBuildTable(t *testing.T) {
	for _, c := range []struct {
		text string
		want litmus.Test
	}{
		{"PWW Rfe PRR Fre", litmus.Test{
			Name: "Fre PWW Rfe PRR",
			Code: [][]litmus.Ins{{{2, 0, 0, 0}, {2, 1, 1, 0}}, {{1, 0, 1, 1}, {1, 0, 0, 1}}},
			Want: []litmus.Claim{{0, 0, 0, 1}, {0, 1, 0, 0}}}},
		// fences, and a cell with two writes by each thread
		{"FWW Coe PWW Coe", litmus.Test{
			Name: "Coe FWW Coe PWW",
			Code: [][]litmus.Ins{{{1, 0, 0, 2}, {1, 0, 1, 1}}, {{1, 0, 1, 2}, {3, 0, 0, 0}, {1, 0, 0, 1}}},
			Want: []litmus.Claim{{-1, 0, 0, 2}, {-1, 0, 1, 2}}}},
		// a cell's first event is the last but one of the cycle: event 3 stores 1, event 1 stores 2
		{"PWW PWW Rfe Fre", litmus.Test{
			Name: "Fre PWW PWW Rfe",
			Code: [][]litmus.Ins{{{2, 0, 0, 0}}, {{1, 0, 0, 2}, {1, 0, 1, 1}, {1, 0, 0, 1}}},
			Want: []litmus.Claim{{0, 0, 0, 1}, {-1, 0, 0, 2}}}},
		// events that P edges alone lead to and from are not claimed
		{"PRR PRR Fre PWW Rfe", litmus.Test{
			Name: "Fre PWW Rfe PRR PRR",
			Code: [][]litmus.Ins{{{2, 0, 0, 0}, {2, 1, 1, 0}, {2, 2, 2, 0}}, {{1, 0, 2, 1}, {1, 0, 0, 1}}},
			Want: []litmus.Claim{{0, 0, 0, 1}, {0, 2, 0, 0}}}},
		// edges within a thread, and a read between two writes
		{"Rfi Fri PWR Fre PWR Fre", litmus.Test{
			Name: "Fre PWR Fre Rfi Fri PWR",
			Code: [][]litmus.Ins{{{1, 0, 0, 1}, {2, 0, 0, 0}, {1, 0, 0, 2}, {2, 1, 1, 0}}, {{1, 0, 1, 1}, {2, 0, 0, 0}}},
			Want: []litmus.Claim{{0, 0, 0, 1}, {0, 1, 0, 0}, {1, 0, 0, 0}, {-1, 0, 0, 2}}}},
	} {
		if b, e, at := litmus.Build(c.text); !reflect.DeepEqual(b, c.want) || e != litmus.OK || at != 0 {
			t.Errorf("P6: Build(%q) = %+v, %d, %d, want %+v", c.text, b, e, at, c.want)
		}
	}
}

func TestBuildErrors(t *testing.T) {
	for _, c := range []struct {
		text string
		e    litmus.Errno
		at   int
	}{
		{strings.Repeat("Coe ", 16), litmus.ErrLong, 0},
		{"", litmus.ErrEdge, 0},
		{"PWW Rfe PRR Fre ", litmus.ErrEdge, 16},
		{"PWW Rfe PWR Fre", litmus.ErrJoin, 2},
		{"PWW PWW", litmus.ErrThreads, 0},
		{"Coe Coe", litmus.ErrCells, 0},
		{"PWW Coe Coi PWW Coe", litmus.ErrWrites, 0},
	} {
		if b, e, at := litmus.Build(c.text); !reflect.DeepEqual(b, litmus.Test{}) || e != c.e || at != c.at {
			t.Errorf("P6: Build(%.80q) = %+v, %d, %d, want error %d, %d", c.text, b, e, at, c.e, c.at)
		}
	}
}

func TestBuildOfFewAndManyEdges(t *testing.T) {
	for n := 1; n <= 5; n++ {
		for _, s := range texts(n, true) {
			buildOne(t, s)
		}
	}
	for _, s := range someTexts(30000) {
		buildOne(t, s)
	}
}

// The most instructions, registers, cells, threads and claims that a cycle can ask for.
func TestBuildOfTheMost(t *testing.T) {
	for _, c := range []struct {
		text                     string
		threads, longest, claims int
	}{
		{"Fre Rfe" + strings.Repeat(" FRR", 14), 2, 29, 2},
		{"Rfe Fre" + strings.Repeat(" FWW", 14), 2, 29, 2},
		{"Coe PWW Coe" + strings.Repeat(" FWW", 13), 2, 27, 2},
		{"Fre Rfe Fre Rfe PRR Fre Rfe Fre Rfe PRR Fre Rfe Fre Rfe PRR", 12, 2, 12},
		{"Rfi" + strings.Repeat(" Fri Rfi PRW Rfi", 3) + " Fre Rfe PRW", 2, 15, 12},
		{strings.Repeat("Coe PWW ", 7) + "Coe PWW", 8, 2, 8},
	} {
		buildOne(t, c.text)
		b, e, _ := litmus.Build(c.text)
		longest := 0
		for _, code := range b.Code {
			longest = max(longest, len(code))
		}
		if e != litmus.OK || len(b.Code) != c.threads || longest != c.longest || len(b.Want) != c.claims {
			t.Errorf("P6: Build(%q): error %d, %d threads, the longest of %d instructions, %d claims, want %d, %d, %d",
				c.text, e, len(b.Code), longest, len(b.Want), c.threads, c.longest, c.claims)
		}
	}
}

// Every test that Build answers is sound, and so the same behind Print and Parse.
func TestBuildIsSound(t *testing.T) {
	for _, s := range someTexts(20000) {
		b, e, _ := litmus.Build(s)
		if e != litmus.OK {
			continue
		}
		text, e := litmus.Print(b)
		if e != litmus.OK {
			t.Errorf("P6: Print of Build(%q): %d", s, e)
		}
		if c, e, _ := litmus.Parse(text); e != litmus.OK || !reflect.DeepEqual(b, c) {
			t.Errorf("P9: Build(%q) = %+v, but Parse of its text %+v, %d", s, b, c, e)
		}
	}
}

func TestBuildOfRotations(t *testing.T) {
	for _, s := range someTexts(10000) {
		b, e, _ := litmus.Build(s)
		if e != litmus.OK {
			continue
		}
		for _, r := range rotations(s) {
			if c, e, at := litmus.Build(r); !reflect.DeepEqual(b, c) || e != litmus.OK || at != 0 {
				t.Errorf("P14: Build(%q) = %+v, %d, %d, but Build(%q) = %+v", r, c, e, at, s, b)
			}
		}
	}
}

func TestBuildIsNewMemory(t *testing.T) {
	const text = "Fre PWW Rfe PRR"
	bytes := []byte(text)
	b, _, _ := litmus.Build(unsafe.String(&bytes[0], len(bytes)))
	for i := range bytes {
		bytes[i] = '?'
	}
	if b.Name != text {
		t.Errorf("P2: the name became %q when the argument's memory was used anew", b.Name)
	}
	kept, _, _ := litmus.Build(text)
	if again, _, _ := litmus.Build(text); !listsAreApart(again) {
		t.Error("P2: two lists of one answer of Build share memory")
	}
	overwrite(b)
	if again, _, _ := litmus.Build(text); !reflect.DeepEqual(again, kept) || !reflect.DeepEqual(again, wantBuild(text)) {
		t.Errorf("P2: writing over an answer of Build changed another one: %+v", again)
	}
}

// overwrite writes over all lists of a test, and over what append finds behind them.
func overwrite(x litmus.Test) {
	for _, code := range x.Code {
		for i := range code[:cap(code)] {
			code[:cap(code)][i] = litmus.Ins{Op: 99}
		}
	}
	for i := range x.Want[:cap(x.Want)] {
		x.Want[:cap(x.Want)][i] = litmus.Claim{Thread: 99}
	}
	for i := range x.Code[:cap(x.Code)] {
		x.Code[:cap(x.Code)][i] = nil
	}
}

// listsAreApart tells whether growing one thread of a test leaves the others as they are.
func listsAreApart(x litmus.Test) bool {
	for i := range x.Code {
		kept := fmt.Sprint(x.Code)
		_ = append(x.Code[i], litmus.Ins{Op: 99})
		if fmt.Sprint(x.Code) != kept {
			return false
		}
	}
	return true
}
