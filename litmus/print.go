package litmus

// printTest answers the text of a sound test.
func printTest(t Test) string {
	var text []byte
	text = append(text, nameHead...)
	text = append(text, t.Name...)
	text = append(text, '\n')
	for thread, code := range t.Code {
		text = append(text, threadHead(thread)...)
		for _, ins := range code {
			text = append(text, ' ')
			text = append(text, insWord(ins)...)
		}
		text = append(text, '\n')
	}
	text = append(text, wantHead...)
	for _, c := range t.Want {
		text = append(text, ' ')
		text = append(text, claimWord(c)...)
	}
	text = append(text, '\n')
	return string(text)
}

// insWord answers how an instruction is written.
func insWord(ins Ins) string {
	cell := signOf(cellSigns, ins.Cell)
	switch ins.Op {
	case opStore:
		val := signOf(valSigns, ins.Val)
		return string([]byte{cell, '=', val})
	case opLoad:
		reg := signOf(numberSigns, ins.Reg)
		return string([]byte{'r', reg, '=', cell})
	}
	return fenceWord
}

// claimWord answers how a claim is written.
func claimWord(c Claim) string {
	val := signOf(valSigns, c.Val)
	if c.Thread == ofCell {
		cell := signOf(cellSigns, c.Cell)
		return string([]byte{cell, '=', val})
	}
	thread := signOf(numberSigns, c.Thread)
	reg := signOf(numberSigns, c.Reg)
	return string([]byte{thread, ':', 'r', reg, '=', val})
}
