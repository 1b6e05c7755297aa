package litmus

const (
	maxEdges      = 16
	edgeLetters   = 3
	edgeStride    = edgeLetters + 1 // an edge and the blank behind it
	maxCycleBytes = edgeStride*maxEdges - 1
	maxCellWrites = 2
)

// readCycle answers the edges of a text at which Check answers OK, or else its error and place.
func readCycle(text string) ([]edge, Errno, int) {
	if len(text) > maxCycleBytes {
		return nil, ErrLong, 0
	}
	edges, errno, place := readEdges(text)
	if errno != OK {
		return nil, errno, place
	}
	errno, place = checkEdges(edges)
	if errno != OK {
		return nil, errno, place
	}
	return edges, OK, 0
}

// readEdges looks at each byte with nothing behind it, since the place of an
// error must not hang on what follows.
func readEdges(text string) ([]edge, Errno, int) {
	var edges []edge
	for at := 0; at < len(text); at++ {
		column := at % edgeStride
		if column == edgeLetters {
			if text[at] != ' ' {
				return nil, ErrEdge, at
			}
			continue
		}
		e := edgeBeginningWith(text[at-column : at+1])
		if e == noEdge {
			return nil, ErrEdge, at
		}
		if column == edgeLetters-1 {
			edges = append(edges, e)
		}
	}
	if len(text)%edgeStride != edgeLetters {
		return nil, ErrEdge, len(text)
	}
	return edges, OK, 0
}

// checkEdges answers what keeps a list of edges from being a cycle, in Check's order.
func checkEdges(edges []edge) (Errno, int) {
	unjoined := firstUnjoined(edges)
	if unjoined < len(edges) {
		return ErrJoin, unjoined
	}
	if countThreads(edges) < 2 {
		return ErrThreads, 0
	}
	if countCells(edges) < 2 {
		return ErrCells, 0
	}
	if mostCellWrites(edges) > maxCellWrites {
		return ErrWrites, 0
	}
	return OK, 0
}

// countThreads answers how many edges lead to another thread: a cycle has as many threads.
func countThreads(edges []edge) int {
	threads := 0
	for _, e := range edges {
		if e.leavesThread() {
			threads++
		}
	}
	return threads
}

// countCells answers how many edges lead to another cell: a cycle has as many cells.
func countCells(edges []edge) int {
	cells := 0
	for _, e := range edges {
		if e.leavesCell() {
			cells++
		}
	}
	return cells
}

// firstUnjoined answers the number of the first edge that does not join the
// one ahead of it, or the number of edges, if all do.
func firstUnjoined(edges []edge) int {
	if len(edges) == 0 {
		return 0
	}
	ahead := edges[len(edges)-1]
	for i, e := range edges {
		if !e.joins(ahead) {
			return i
		}
		ahead = e
	}
	return len(edges)
}

// mostCellWrites answers how many writes the cell with the most of them has.
func mostCellWrites(edges []edge) int {
	// Begun where a cell begins, no cell is cut in two by the list's end.
	first := firstLeavingCell(edges)
	list := rotated(edges, first)
	most := 0
	writes := 0
	for _, e := range list {
		if e.leavesCell() {
			writes = 0
		}
		if e.endsAtWrite() {
			writes++
		}
		if writes > most {
			most = writes
		}
	}
	return most
}

// firstLeavingCell answers the number of the first edge to another cell, or 0, if there is none.
func firstLeavingCell(edges []edge) int {
	for i, e := range edges {
		if e.leavesCell() {
			return i
		}
	}
	return 0
}

// rotated answers the same edges in a new list that begins at edge number first.
func rotated(edges []edge, first int) []edge {
	if first < 0 || first > len(edges) {
		first = 0
	}
	var list []edge
	for i := first; i < len(edges); i++ {
		list = append(list, edges[i])
	}
	for i := 0; i < first; i++ {
		list = append(list, edges[i])
	}
	return list
}

// leastRotation answers the base of a cycle, as a new list.
func leastRotation(edges []edge) []edge {
	least := rotated(edges, 0)
	for first := 1; first < len(edges); first++ {
		other := rotated(edges, first)
		if comesAhead(other, least) {
			least = other
		}
	}
	return least
}

// comesAhead tells whether the text of a is less than that of b, where both have as many edges.
func comesAhead(a []edge, b []edge) bool {
	for i := 0; i < len(a) && i < len(b); i++ {
		if a[i] != b[i] {
			return a[i] < b[i]
		}
	}
	return false
}

// spell answers the text of a list of edges. It is made from bytes, since
// joining strings may answer one of them and so share an argument's memory.
func spell(edges []edge) string {
	var text []byte
	for i, e := range edges {
		if i > 0 {
			text = append(text, ' ')
		}
		name := e.name()
		for at := 0; at < len(name); at++ {
			text = append(text, name[at])
		}
	}
	return string(text)
}
