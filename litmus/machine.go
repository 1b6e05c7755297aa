package litmus

const (
	modelAtOnce  = 0 // a store is written into its cell at once
	modelBuffers = 1 // a store goes into its thread's buffer
)

// held is a store that waits in a buffer.
type held struct{ cell, val int }

// runner is a thread at play.
type runner struct {
	next   int // the number of its next instruction
	regs   [maxRegs]int
	buffer []held // the oldest first
}

// machine is where a play stands.
type machine struct {
	model   int
	threads []runner
	cells   [maxCells]int
}

// move is what a thread may do next: drain, or else make its next instruction.
type move struct {
	thread int
	drains bool
}

// playTest answers where the play of a sound test's code ends. It does end:
// each move makes an instruction or drains a store, and neither comes back.
func playTest(code [][]Ins, model int, script []int) *machine {
	m := newMachine(code, model)
	moves := m.moves(code)
	for made := 0; len(moves) > 0; made++ {
		k := 0
		if made < len(script) {
			k = pick(script[made], len(moves))
		}
		m.makeMove(code, moves[k])
		moves = m.moves(code)
	}
	return m
}

// newMachine answers a machine at the beginning of a play.
func newMachine(code [][]Ins, model int) *machine {
	m := &machine{model: model}
	for range code {
		m.threads = append(m.threads, runner{})
	}
	return m
}

// pick answers which of count moves a number of a script makes.
func pick(k int, count int) int {
	if k < 0 {
		k = -(k + 1)
	}
	if count < 1 {
		return 0
	}
	return k % count
}

// moves answers the moves that can be made, in their order.
func (m *machine) moves(code [][]Ins) []move {
	var list []move
	for i, instructions := range code {
		if i >= len(m.threads) {
			break
		}
		if m.threads[i].canStep(instructions) {
			list = append(list, move{thread: i})
		}
		if m.threads[i].canDrain() {
			list = append(list, move{thread: i, drains: true})
		}
	}
	return list
}

// canStep tells whether the thread can make its next instruction.
func (r *runner) canStep(code []Ins) bool {
	if r.next < 0 || r.next >= len(code) {
		return false
	}
	return code[r.next].Op != opFence || len(r.buffer) == 0
}

// canDrain tells whether a store waits in the thread's buffer.
func (r *runner) canDrain() bool { return len(r.buffer) > 0 }

// makeMove makes one of the moves that can be made.
func (m *machine) makeMove(code [][]Ins, one move) {
	i := one.thread
	if i < 0 || i >= len(m.threads) || i >= len(code) {
		return
	}
	r := &m.threads[i]
	if one.drains {
		m.drain(r)
		return
	}
	if r.next < 0 || r.next >= len(code[i]) {
		return
	}
	ins := code[i][r.next]
	r.next++
	m.step(r, ins)
}

// step makes an instruction. A fence does nothing: that the buffer is empty
// was asked before.
func (m *machine) step(r *runner, ins Ins) {
	switch ins.Op {
	case opStore:
		if m.model == modelAtOnce {
			m.write(ins.Cell, ins.Val)
		} else {
			r.buffer = append(r.buffer, held{ins.Cell, ins.Val})
		}
	case opLoad:
		val := m.seen(r, ins.Cell)
		if isReg(ins.Reg) {
			r.regs[ins.Reg] = val
		}
	}
}

// drain writes the oldest store of a buffer into its cell.
func (m *machine) drain(r *runner) {
	if len(r.buffer) == 0 {
		return
	}
	oldest := r.buffer[0]
	r.buffer = r.buffer[1:]
	m.write(oldest.cell, oldest.val)
}

// seen answers what a thread reads: its own youngest store of the cell that
// waits, or else the cell.
func (m *machine) seen(r *runner, cell int) int {
	for i := len(r.buffer) - 1; i >= 0; i-- {
		if r.buffer[i].cell == cell {
			return r.buffer[i].val
		}
	}
	return m.read(cell)
}

// write lays a number into a cell.
func (m *machine) write(cell int, val int) {
	if isCell(cell) {
		m.cells[cell] = val
	}
}

// read answers what a cell has.
func (m *machine) read(cell int) int {
	if !isCell(cell) {
		return 0
	}
	return m.cells[cell]
}

// numbers answers the registers of all threads and then the cells.
func (m *machine) numbers() []int {
	var list []int
	for i := range m.threads {
		for _, val := range m.threads[i].regs {
			list = append(list, val)
		}
	}
	for _, val := range m.cells {
		list = append(list, val)
	}
	return list
}

// meets tells whether all claims hold.
func (m *machine) meets(want []Claim) bool {
	for _, c := range want {
		if m.claimed(c) != c.Val {
			return false
		}
	}
	return true
}

// claimed answers the number of which a claim speaks.
func (m *machine) claimed(c Claim) int {
	if c.Thread == ofCell {
		return m.read(c.Cell)
	}
	if c.Thread < 0 || c.Thread >= len(m.threads) || !isReg(c.Reg) {
		return 0
	}
	return m.threads[c.Thread].regs[c.Reg]
}
