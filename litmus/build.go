package litmus

// buildTest answers the test of a cycle, given its base.
func buildTest(base []edge) Test {
	events := cycleEvents(base)
	threads := countThreads(base)
	var code [][]Ins
	for thread := 0; thread < threads; thread++ {
		code = append(code, threadCode(events, thread))
	}
	cells := countCells(base)
	name := spell(base)
	want := wantedOf(events, cells)
	return Test{Name: name, Code: code, Want: want}
}

// threadCode answers the instructions of one thread.
func threadCode(events []event, thread int) []Ins {
	var code []Ins
	for i, v := range events {
		if v.thread != thread {
			continue
		}
		if v.into.isFence() {
			code = append(code, Ins{Op: opFence})
		}
		if v.isWrite() {
			code = append(code, Ins{Op: opStore, Cell: v.cell, Val: valueAt(events, i)})
		} else {
			code = append(code, Ins{Op: opLoad, Reg: v.reg, Cell: v.cell})
		}
	}
	return code
}

// wantedOf answers the claims: first of reads, then of cells.
func wantedOf(events []event, cells int) []Claim {
	var want []Claim
	for i, v := range events {
		if v.isClaimed() {
			want = append(want, Claim{Thread: v.thread, Reg: v.reg, Val: valueAt(events, i)})
		}
	}
	for cell := 0; cell < cells; cell++ {
		writes := countWrites(events, cell)
		// With one write alone nothing is open about what the cell has at the end.
		if writes == maxCellWrites {
			want = append(want, Claim{Thread: ofCell, Cell: cell, Val: writes})
		}
	}
	return want
}

// countWrites answers how many writes a cell has.
func countWrites(events []event, cell int) int {
	writes := 0
	for _, v := range events {
		if v.cell == cell && v.isWrite() {
			writes++
		}
	}
	return writes
}
