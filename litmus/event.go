package litmus

// event is a read or a write of a cycle.
type event struct {
	into   edge // leads to it
	out    edge // leads from it
	thread int
	cell   int
	reg    int // a read's register
}

// isWrite tells whether the event is a write.
func (v event) isWrite() bool { return v.out.beginsAtWrite() }

// isClaimed tells whether the event is a read of which the cycle says what it takes.
func (v event) isClaimed() bool {
	if v.isWrite() {
		return false
	}
	return v.into.isRf() || v.out.isFr()
}

// cycleEvents answers the events of a cycle in their order, given its base.
func cycleEvents(base []edge) []event {
	first := firstOut(base)
	list := rotated(base, first)
	if len(list) == 0 {
		return nil
	}
	var events []event
	into := list[len(list)-1]
	cells := countCells(list)
	thread := 0
	cell := 0
	reg := 0
	for _, out := range list {
		one := event{into: into, out: out, thread: thread, cell: cell}
		if !one.isWrite() {
			one.reg = reg
			reg++
		}
		events = append(events, one)
		if out.leavesThread() {
			thread++
			reg = 0
		}
		if out.leavesCell() {
			cell++
		}
		if cell == cells {
			cell = 0
		}
		into = out
	}
	return events
}

// firstOut answers the number of the edge that leads from event 0: the one
// behind the base's last edge to another thread.
func firstOut(base []edge) int {
	first := 0
	for i, e := range base {
		if e.leavesThread() {
			first = i + 1
		}
	}
	return first
}

// valueAt answers how many writes the cell of event number at has up to that
// event and with it. The writes store 1 and then 2, so this is what a write
// stores, and what a read has, if it takes the write ahead of it.
func valueAt(events []event, at int) int {
	writes := 0
	for range events {
		if at < 0 || at >= len(events) {
			at = len(events) - 1
		}
		if events[at].isWrite() {
			writes++
		}
		if events[at].into.leavesCell() {
			return writes
		}
		at--
	}
	return writes
}
