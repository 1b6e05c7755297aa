// Package litmus: small tests of a machine's memory, made from cycles: see DOC.md.
package litmus

// Errno is what a call answers: OK or the reason for a refusal.
type Errno int

const (
	OK         Errno = 0
	ErrLong    Errno = 1  // a text above its bound
	ErrEdge    Errno = 2  // not made of edges
	ErrJoin    Errno = 3  // two edges that do not join
	ErrThreads Errno = 4  // too few edges between threads
	ErrCells   Errno = 5  // too few edges between cells
	ErrWrites  Errno = 6  // a cell with too many writes
	ErrModel   Errno = 7  // no such machine
	ErrNone    Errno = 8  // no script shows it
	ErrTest    Errno = 9  // a test that is not sound
	ErrText    Errno = 10 // no test's text
	ErrRange   Errno = 11 // a number out of its range
	ErrMany    Errno = 12 // more cycles than asked for
)

// Ins is an instruction: store (Op 1), load (2) or fence (3).
type Ins struct{ Op, Reg, Cell, Val int }

// Claim says what a register (Thread from 0 on) or a cell (Thread -1) has at the end.
type Claim struct{ Thread, Reg, Cell, Val int }

// Test is a name, the threads' code and the claims.
type Test struct {
	Name string
	Code [][]Ins
	Want []Claim
}

// Check tells whether a text is a cycle (P3).
func Check(cycle string) (Errno, int) {
	_, errno, place := readCycle(cycle)
	return errno, place
}

// Base answers the least rotation (P4).
func Base(cycle string) (string, Errno, int) {
	edges, errno, place := readCycle(cycle)
	if errno != OK {
		return "", errno, place
	}
	least := leastRotation(edges)
	return spell(least), OK, 0
}

// All lists the bases of at most n edges (P5).
func All(n int, most int) ([]string, Errno) {
	if n < 0 || n > maxLen || most < 0 || most > maxList {
		return nil, ErrRange
	}
	list, all := listBases(n, most)
	if !all {
		return nil, ErrMany
	}
	return list, OK
}

// Build makes a cycle's test (P6, P7).
func Build(cycle string) (Test, Errno, int) {
	edges, errno, place := readCycle(cycle)
	if errno != OK {
		return Test{}, errno, place
	}
	base := leastRotation(edges)
	return buildTest(base), OK, 0
}

// Print writes a test as text (P8).
func Print(t Test) (string, Errno) {
	if !isSound(t) {
		return "", ErrTest
	}
	return printTest(t), OK
}

// Parse reads a test's text (P9).
func Parse(text string) (Test, Errno, int) {
	if len(text) > maxFile {
		return Test{}, ErrLong, 0
	}
	t, isTest, place := parseTest(text)
	if !isTest {
		return Test{}, ErrText, place
	}
	return t, OK, 0
}

// Play plays a test on a machine (P10).
func Play(t Test, model int, script []int) ([]int, bool, Errno) {
	if !isSound(t) {
		return nil, false, ErrTest
	}
	if model != modelAtOnce && model != modelBuffers {
		return nil, false, ErrModel
	}
	end := playTest(t.Code, model, script)
	numbers := end.numbers()
	return numbers, end.meets(t.Want), OK
}

// Label tells whether a machine may show a cycle (P11, P12).
func Label(cycle string, model int) (bool, Errno, int) {
	edges, errno, place := readCycle(cycle)
	if errno != OK {
		return false, errno, place
	}
	if model != modelAtOnce && model != modelBuffers {
		return false, ErrModel, 0
	}
	if model == modelAtOnce {
		// Written at once, each edge leads to a later event: none goes round.
		return false, OK, 0
	}
	base := leastRotation(edges)
	events := cycleEvents(base)
	_, shown := happenings(events)
	return shown, OK, 0
}

// Script answers picks that show a cycle on the machine with buffers (P13).
func Script(cycle string) ([]int, Errno, int) {
	edges, errno, place := readCycle(cycle)
	if errno != OK {
		return nil, errno, place
	}
	base := leastRotation(edges)
	events := cycleEvents(base)
	order, shown := happenings(events)
	if !shown {
		return nil, ErrNone, 0
	}
	t := buildTest(base)
	moves := movesInOrder(events, order)
	return picksOf(t.Code, moves), OK, 0
}
