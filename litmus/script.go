package litmus

// movesInOrder answers the moves with which a cycle's events happen in the
// given order. A store or fence is made no sooner than the thread's next event
// needs it: the buffer is then empty where a fence asks for it.
func movesInOrder(events []event, order []int) []move {
	var list []move
	for _, at := range order {
		if at < 0 || at >= len(events) {
			continue
		}
		thread := events[at].thread
		needed := stepsUpTo(events, at)
		for made := stepsAmong(list, thread); made < needed; made++ {
			list = append(list, move{thread: thread})
		}
		if events[at].isWrite() {
			list = append(list, move{thread: thread, drains: true})
		}
	}
	return list
}

// stepsUpTo answers how many instructions the thread of an event has up to that event and with it.
func stepsUpTo(events []event, at int) int {
	if at < 0 || at >= len(events) {
		return 0
	}
	steps := 0
	for i := 0; i <= at; i++ {
		if events[i].thread != events[at].thread {
			continue
		}
		if events[i].into.isFence() {
			steps++
		}
		steps++
	}
	return steps
}

// stepsAmong answers how many of the moves make an instruction of a thread.
func stepsAmong(list []move, thread int) int {
	steps := 0
	for _, one := range list {
		if one.thread == thread && !one.drains {
			steps++
		}
	}
	return steps
}

// picksOf answers the script that makes the given moves on the machine with buffers.
func picksOf(code [][]Ins, list []move) []int {
	m := newMachine(code, modelBuffers)
	var script []int
	for _, one := range list {
		moves := m.moves(code)
		script = append(script, pickFor(moves, one))
		m.makeMove(code, one)
	}
	return script
}

// pickFor answers the number of a move among those that can be made.
func pickFor(moves []move, one move) int {
	for k, other := range moves {
		if other == one {
			return k
		}
	}
	return 0
}
