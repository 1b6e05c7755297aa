package litmus_test

import (
	"math/rand"
	"slices"
	"strings"

	"litmus/litmus"
)

// stand is where a play stands: how many instructions each thread has made, how
// many of its stores were written, and what the cells have.
type stand struct {
	made, written, cells [16]int8
}

// search goes through all plays of a test in which no claim of a register fails.
type search struct {
	code  [][]litmus.Ins
	model int
	regs  map[[2]int]int // what is claimed of a thread's register
	cells map[int]int    // what is claimed of a cell
	tried map[stand]bool
}

// wantScript answers a script with which all claims of a test hold, and whether
// there is one. It tries all plays.
func wantScript(x litmus.Test, model int) ([]int, bool) {
	s := search{code: x.Code, model: model, regs: map[[2]int]int{}, cells: map[int]int{}, tried: map[stand]bool{}}
	for _, c := range x.Want {
		if c.Thread == -1 {
			s.cells[c.Cell] = c.Val
		} else {
			s.regs[[2]int{c.Thread, c.Reg}] = c.Val
		}
	}
	return s.from(stand{})
}

// from answers a script that leads from there to an end at which all claims hold.
func (s *search) from(at stand) ([]int, bool) {
	if s.tried[at] {
		return nil, false
	}
	s.tried[at] = true
	moves := 0
	for thread := range s.code {
		for _, drains := range []bool{false, true} {
			next, can, fits := s.after(at, thread, drains)
			if !can {
				continue
			}
			if fits {
				if script, found := s.from(next); found {
					return slices.Concat([]int{moves}, script), true
				}
			}
			moves++
		}
	}
	if moves > 0 {
		return nil, false
	}
	for cell, val := range s.cells {
		if int(at.cells[cell]) != val {
			return nil, false
		}
	}
	return nil, true
}

// after answers where a move leads, whether it can be made, and whether what it reads is as claimed.
func (s *search) after(at stand, thread int, drains bool) (stand, bool, bool) {
	var stores []litmus.Ins
	for _, ins := range s.code[thread][:at.made[thread]] {
		if ins.Op == 1 {
			stores = append(stores, ins)
		}
	}
	waiting := stores[at.written[thread]:]
	if drains {
		if len(waiting) == 0 {
			return at, false, false
		}
		at.cells[waiting[0].Cell] = int8(waiting[0].Val)
		at.written[thread]++
		return at, true, true
	}
	if int(at.made[thread]) == len(s.code[thread]) {
		return at, false, false
	}
	ins := s.code[thread][at.made[thread]]
	at.made[thread]++
	switch {
	case ins.Op == 3:
		return at, len(waiting) == 0, true
	case ins.Op == 1 && s.model == 0:
		at.cells[ins.Cell] = int8(ins.Val)
		at.written[thread]++
		return at, true, true
	case ins.Op == 1:
		return at, true, true
	}
	got := int(at.cells[ins.Cell])
	for _, store := range waiting {
		if store.Cell == ins.Cell {
			got = store.Val
		}
	}
	val, claimed := s.regs[[2]int{thread, ins.Reg}]
	return at, true, !claimed || got == val
}

// someCycles answers count cycles of least to most edges, the same ones each
// time; names are the edges that may stand in them, the more often the likelier.
func someCycles(seed int64, count, least, most int, names []string) []string {
	source := rand.New(rand.NewSource(seed))
	var list []string
	for len(list) < count {
		var edges []string
		for range least + source.Intn(most-least+1) {
			name := names[source.Intn(len(names))]
			for len(edges) > 0 && table[edges[len(edges)-1]].to != table[name].from {
				name = names[source.Intn(len(names))]
			}
			edges = append(edges, name)
		}
		text := strings.Join(edges, " ")
		if e, _ := wantCheck(text); e == litmus.OK {
			list = append(list, text)
		}
	}
	return list
}
