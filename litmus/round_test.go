package litmus_test

import (
	"slices"
	"testing"

	"litmus/litmus"
)

// round is a cycle's events, and where Build's test has them.
type round struct {
	events []place
	ins    []litmus.Ins // of each event
	writes [][]int      // of each cell, the numbers of its writes
}

// newRound finds the events in the code of Build's test.
func newRound(text string, b litmus.Test) round {
	r := round{events: wantEvents(text)}
	for _, code := range b.Code {
		for _, ins := range code {
			if ins.Op != 3 {
				r.ins = append(r.ins, ins)
			}
		}
	}
	r.writes = make([][]int, len(r.events))
	for i, v := range r.events {
		if table[v.out].from == 'W' {
			r.writes[v.cell] = append(r.writes[v.cell], i)
		}
	}
	return r
}

// isRound tells whether all edges hold, where read i was given write given[i],
// or none (-1), and orders has the writes of each cell in their order.
func (r round) isRound(given []int, orders [][]int) bool {
	for i, v := range r.events {
		j := (i + 1) % len(r.events)
		order := orders[v.cell]
		at := func(write int) int { return slices.Index(order, write) } // -1 for none
		switch v.out[:2] {
		case "Rf":
			if given[j] != i {
				return false
			}
		case "Co":
			if at(i) >= at(j) {
				return false
			}
		case "Fr":
			if at(given[i]) >= at(j) {
				return false
			}
		}
	}
	return true
}

// isSeen tells whether the registers and cells then meet the claims.
func (r round) isSeen(given []int, orders [][]int, want []litmus.Claim) bool {
	value := func(write int) int {
		if write < 0 {
			return 0
		}
		return r.ins[write].Val
	}
	for _, c := range want {
		got := 0
		if c.Thread == -1 {
			if order := orders[c.Cell]; len(order) > 0 {
				got = value(order[len(order)-1])
			}
		} else {
			for i, v := range r.events {
				if v.thread == c.Thread && r.ins[i].Op == 2 && r.ins[i].Reg == c.Reg {
					got = value(given[i])
				}
			}
		}
		if got != c.Val {
			return false
		}
	}
	return true
}

// eachChoice goes through all choices of a write for every read and all orders of the writes.
func (r round) eachChoice(visit func(given []int, orders [][]int)) {
	given := make([]int, len(r.events))
	orders := make([][]int, len(r.events))
	var choose func(i int)
	var arrange func(cell int)
	choose = func(i int) {
		if i == len(r.events) {
			visit(given, orders)
			return
		}
		given[i] = -1
		if table[r.events[i].out].from == 'R' {
			for _, w := range r.writes[r.events[i].cell] {
				given[i] = w
				choose(i + 1)
			}
			given[i] = -1
		}
		choose(i + 1)
	}
	arrange = func(cell int) {
		if cell == len(orders) {
			choose(0)
			return
		}
		orders[cell] = slices.Clone(r.writes[cell])
		arrange(cell + 1)
		if len(r.writes[cell]) == 2 {
			slices.Reverse(orders[cell])
			arrange(cell + 1)
		}
	}
	arrange(0)
}

// roundOne tells how many choices go round and how many do not.
func roundOne(t *testing.T, text string) (int, int) {
	t.Helper()
	b, e, _ := litmus.Build(text)
	if e != litmus.OK {
		t.Fatalf("P6: Build(%q): %d", text, e)
	}
	r := newRound(text, b)
	if len(r.ins) != len(r.events) {
		t.Fatalf("P6: Build(%q) has %d events, want %d", text, len(r.ins), len(r.events))
	}
	yes, no := 0, 0
	r.eachChoice(func(given []int, orders [][]int) {
		went, seen := r.isRound(given, orders), r.isSeen(given, orders, b.Want)
		if went != seen {
			t.Errorf("P7: %q, reads given %v, orders %v: round %v, claims hold %v", text, given, orders, went, seen)
		}
		if went {
			yes++
		} else {
			no++
		}
	})
	return yes, no
}

func TestClaimsSayTheRound(t *testing.T) {
	list, _ := litmus.All(5, 4000)
	for _, s := range list {
		if yes, no := roundOne(t, s); yes == 0 || no == 0 {
			t.Errorf("P7: %q: %d choices go round, %d do not", s, yes, no)
		}
	}
	tried := 0
	for _, s := range someTexts(20000) {
		if e, _ := litmus.Check(s); e == litmus.OK && len(s) >= 6*4-1 && len(s) <= 11*4-1 {
			roundOne(t, s)
			tried++
		}
	}
	if tried < 100 {
		t.Errorf("only %d longer cycles were tried", tried)
	}
}
