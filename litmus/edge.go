package litmus

// edge is the number of an edge's three letters in edgeNames.
type edge int

// The numbers rise as the letters do by their bytes, so that comparing the
// numbers of two cycles' edges is comparing their texts.
const (
	coe edge = iota
	coi
	fenceRR
	fenceRW
	fenceWR
	fenceWW
	fre
	fri
	poRR
	poRW
	poWR
	poWW
	rfe
	rfi
	edgeKinds
	noEdge edge = -1
)

var edgeNames = [edgeKinds]string{
	"Coe", "Coi",
	"FRR", "FRW", "FWR", "FWW",
	"Fre", "Fri",
	"PRR", "PRW", "PWR", "PWW",
	"Rfe", "Rfi",
}

// name answers an edge's letters.
func (e edge) name() string {
	if e < 0 || e >= edgeKinds {
		return ""
	}
	return edgeNames[e]
}

// beginsAtWrite tells whether the edge leads from a write.
func (e edge) beginsAtWrite() bool {
	switch e {
	case coe, coi, fenceWR, fenceWW, poWR, poWW, rfe, rfi:
		return true
	}
	return false
}

// endsAtWrite tells whether the edge leads to a write.
func (e edge) endsAtWrite() bool {
	switch e {
	case coe, coi, fenceRW, fenceWW, fre, fri, poRW, poWW:
		return true
	}
	return false
}

// leavesThread tells whether the edge leads to another thread.
func (e edge) leavesThread() bool {
	switch e {
	case coe, fre, rfe:
		return true
	}
	return false
}

// leavesCell tells whether the edge leads to another cell.
func (e edge) leavesCell() bool {
	switch e {
	case fenceRR, fenceRW, fenceWR, fenceWW, poRR, poRW, poWR, poWW:
		return true
	}
	return false
}

// isFence tells whether the edge asks for a fence.
func (e edge) isFence() bool {
	switch e {
	case fenceRR, fenceRW, fenceWR, fenceWW:
		return true
	}
	return false
}

// isRf tells whether the edge says which write a read takes its value from.
func (e edge) isRf() bool { return e == rfe || e == rfi }

// isFr tells whether the edge says which write a read's value is older than.
func (e edge) isFr() bool { return e == fre || e == fri }

// joins tells whether the edge begins at the kind of event at which the one ahead ends.
func (e edge) joins(ahead edge) bool {
	ends := ahead.endsAtWrite()
	return e.beginsAtWrite() == ends
}

// edgeBeginningWith answers the first edge whose letters begin with head, or noEdge.
func edgeBeginningWith(head string) edge {
	for e := edge(0); e < edgeKinds; e++ {
		name := e.name()
		if len(head) <= len(name) && name[:len(head)] == head {
			return e
		}
	}
	return noEdge
}
