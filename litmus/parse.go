package litmus

// parseTest answers the test of a text, or false and the number of the first
// line that cannot stand where it does.
func parseTest(text string) (Test, bool, int) {
	pieces := split(text, '\n')
	// The last piece is not ended by a newline: it is no line of a test.
	last := len(pieces) - 1
	if last < 1 {
		return Test{}, false, 0
	}
	name, can := readNameLine(pieces[0])
	if !can {
		return Test{}, false, 0
	}
	code := readThreads(pieces[1:last])
	at := 1 + len(code)
	if at >= last || len(code) == 0 {
		return Test{}, false, at
	}
	want, can := readWantLine(pieces[at], len(code))
	if !can {
		return Test{}, false, at
	}
	at++
	if at != last || pieces[last] != "" {
		return Test{}, false, at
	}
	return Test{Name: name, Code: code, Want: want}, true, 0
}

// split answers the pieces of a text between the signs by which it is parted:
// one more than there are such signs.
func split(text string, sign byte) []string {
	var pieces []string
	from := 0
	for i := 0; i < len(text); i++ {
		if text[i] == sign {
			pieces = append(pieces, text[from:i])
			from = i + 1
		}
	}
	return append(pieces, text[from:])
}

// readNameLine answers the name, made from bytes, since it must not share the line's memory.
func readNameLine(line string) (string, bool) {
	if len(line) < len(nameHead) || line[:len(nameHead)] != nameHead {
		return "", false
	}
	var name []byte
	for i := len(nameHead); i < len(line); i++ {
		name = append(name, line[i])
	}
	text := string(name)
	return text, nameIsSound(text)
}

// readThreads answers the threads of the lines up to the first that cannot
// stand as the next thread's.
func readThreads(lines []string) [][]Ins {
	var threads [][]Ins
	for i, line := range lines {
		if i >= maxThreads {
			break
		}
		code, can := readThreadLine(line, i)
		if !can {
			break
		}
		threads = append(threads, code)
	}
	return threads
}

// readThreadLine answers the instructions of the line of a thread.
func readThreadLine(line string, thread int) ([]Ins, bool) {
	words := split(line, ' ')
	head := threadHead(thread)
	var code []Ins
	for i, word := range words {
		if i == 0 {
			if word != head {
				return nil, false
			}
			continue
		}
		ins, can := readIns(word)
		if !can {
			return nil, false
		}
		code = append(code, ins)
	}
	return code, codeIsSound(code)
}

// readIns answers the instruction for which a word is written.
func readIns(word string) (Ins, bool) {
	if word == fenceWord {
		return Ins{Op: opFence}, true
	}
	if len(word) == 4 && word[0] == 'r' && word[2] == '=' {
		reg := numberOf(numberSigns, word[1])
		cell := numberOf(cellSigns, word[3])
		return Ins{Op: opLoad, Reg: reg, Cell: cell}, reg >= 0 && cell >= 0
	}
	cell, val, can := readCellIs(word)
	return Ins{Op: opStore, Cell: cell, Val: val}, can
}

// readCellIs answers the cell and the number of a word such as a=1.
func readCellIs(word string) (int, int, bool) {
	if len(word) != 3 || word[1] != '=' {
		return 0, 0, false
	}
	cell := numberOf(cellSigns, word[0])
	val := numberOf(valSigns, word[2])
	return cell, val, cell >= 0 && val >= 0
}

// readWantLine answers the claims of the last line of a test with so many threads.
func readWantLine(line string, threads int) ([]Claim, bool) {
	words := split(line, ' ')
	var want []Claim
	for i, word := range words {
		if i == 0 {
			if word != wantHead {
				return nil, false
			}
			continue
		}
		c, can := readClaim(word)
		if !can {
			return nil, false
		}
		want = append(want, c)
	}
	return want, wantIsSound(want, threads)
}

// readClaim answers the claim for which a word is written.
func readClaim(word string) (Claim, bool) {
	if len(word) == 6 && word[1:3] == ":r" && word[4] == '=' {
		thread := numberOf(numberSigns, word[0])
		reg := numberOf(numberSigns, word[3])
		val := numberOf(valSigns, word[5])
		return Claim{Thread: thread, Reg: reg, Val: val}, thread >= 0 && reg >= 0 && val >= 0
	}
	cell, val, can := readCellIs(word)
	return Claim{Thread: ofCell, Cell: cell, Val: val}, can
}
