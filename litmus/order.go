package litmus

// On the machine with buffers a read happens when its load is made, and a
// write when its store leaves the buffer. What the claims ask for says which
// of two events happens first, and some play meets them all exactly if no
// event has to happen ahead of itself. So it need not be played to be told.

// happenings answers the numbers of a cycle's events in an order in which they
// happen where all claims hold, or false, if there is none.
func happenings(events []event) ([]int, bool) {
	var order []int
	for range events {
		next := nextHappening(events, order)
		if next < 0 {
			return nil, false
		}
		order = append(order, next)
	}
	return order, true
}

// nextHappening answers an event that can happen behind those of the order, or -1.
func nextHappening(events []event, order []int) int {
	for at := range events {
		if !isAmong(order, at) && !mustWait(events, order, at) {
			return at
		}
	}
	return -1
}

// isAmong tells whether a list has a number.
func isAmong(list []int, number int) bool {
	for _, one := range list {
		if one == number {
			return true
		}
	}
	return false
}

// mustWait tells whether an event that is not in the order has to happen ahead of this one.
func mustWait(events []event, order []int, at int) bool {
	for first := range events {
		if !isAmong(order, first) && happensFirst(events, first, at) {
			return true
		}
	}
	return false
}

// happensFirst tells whether one event has to happen ahead of another one, if
// all claims hold.
func happensFirst(events []event, first int, second int) bool {
	return firstByCode(events, first, second) || firstByValue(events, first, second)
}

// firstByCode tells whether the code of a thread keeps two of its events in
// their order. A store that waits lets later loads pass, unless a fence stands
// between: a fence waits for the buffer. It lets no later store pass.
func firstByCode(events []event, first int, second int) bool {
	if first < 0 || first >= second || second >= len(events) {
		return false
	}
	if events[first].thread != events[second].thread {
		return false
	}
	if !events[first].isWrite() || events[second].isWrite() {
		return true
	}
	for at := first + 1; at <= second; at++ {
		if events[at].into.isFence() {
			return true
		}
	}
	return false
}

// firstByValue tells whether what is claimed of a cell keeps two of its events
// in their order: the last number in a cell is that of its last write, and a
// read that is claimed has the number of one write alone.
func firstByValue(events []event, first int, second int) bool {
	if first < 0 || first >= len(events) || second < 0 || second >= len(events) {
		return false
	}
	one := events[first]
	other := events[second]
	if one.cell != other.cell {
		return false
	}
	val := valueAt(events, first)
	otherVal := valueAt(events, second)
	switch {
	case other.isWrite():
		return val < otherVal && (one.isWrite() || one.isClaimed())
	case !one.isWrite() || !other.isClaimed():
		return false
	case first == ownWrite(events, second):
		// The store that waits gives the read its own number and hides all
		// others: it must have left the buffer, if another one is claimed.
		return val != otherVal
	}
	return val == otherVal
}

// ownWrite answers the last write of the same cell ahead of a read in the code
// of its thread, or -1, if there is none.
func ownWrite(events []event, read int) int {
	if read < 0 || read >= len(events) {
		return -1
	}
	for at := read - 1; at >= 0; at-- {
		v := events[at]
		if v.thread != events[read].thread {
			return -1
		}
		if v.cell == events[read].cell && v.isWrite() {
			return at
		}
	}
	return -1
}
