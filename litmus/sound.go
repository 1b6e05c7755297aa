package litmus

const (
	maxThreads = 16
	maxCode    = 32
	maxCells   = 16
	maxRegs    = 16
	maxVal     = 9
	maxWant    = 32
	maxName    = 63
)

const (
	opStore = 1
	opLoad  = 2
	opFence = 3
)

// ofCell is the Thread of a claim about a cell.
const ofCell = -1

// isSound tells whether a test is sound.
func isSound(t Test) bool {
	if !nameIsSound(t.Name) {
		return false
	}
	if len(t.Code) < 1 || len(t.Code) > maxThreads {
		return false
	}
	for _, code := range t.Code {
		if !codeIsSound(code) {
			return false
		}
	}
	return wantIsSound(t.Want, len(t.Code))
}

// nameIsSound tells whether a test may have the name.
func nameIsSound(name string) bool {
	if len(name) > maxName {
		return false
	}
	for i := 0; i < len(name); i++ {
		if name[i] < ' ' || name[i] > '~' {
			return false
		}
	}
	return true
}

// codeIsSound tells whether a thread of a sound test may have the instructions.
func codeIsSound(code []Ins) bool {
	if len(code) < 1 || len(code) > maxCode {
		return false
	}
	for _, ins := range code {
		if !insIsSound(ins) {
			return false
		}
	}
	return true
}

// insIsSound tells whether a sound test may have the instruction.
func insIsSound(ins Ins) bool {
	if !isCell(ins.Cell) || !isReg(ins.Reg) || !isVal(ins.Val) {
		return false
	}
	switch ins.Op {
	case opStore:
		return ins.Reg == 0
	case opLoad:
		return ins.Val == 0
	case opFence:
		return ins.Reg == 0 && ins.Cell == 0 && ins.Val == 0
	}
	return false
}

// wantIsSound tells whether a sound test with so many threads may have the claims.
func wantIsSound(want []Claim, threads int) bool {
	if len(want) > maxWant {
		return false
	}
	for _, c := range want {
		if !claimIsSound(c, threads) {
			return false
		}
	}
	return true
}

// claimIsSound tells whether a sound test with so many threads may have the claim.
func claimIsSound(c Claim, threads int) bool {
	if !isCell(c.Cell) || !isReg(c.Reg) || !isVal(c.Val) {
		return false
	}
	if c.Thread == ofCell {
		return c.Reg == 0
	}
	return c.Thread >= 0 && c.Thread < threads && c.Cell == 0
}

func isCell(n int) bool { return n >= 0 && n < maxCells }

func isReg(n int) bool { return n >= 0 && n < maxRegs }

func isVal(n int) bool { return n >= 0 && n <= maxVal }
