package litmus

const (
	maxLen  = 6
	maxList = 4000
)

// listBases answers the bases of at most n edges, or false, if there are more than most.
func listBases(n int, most int) ([]string, bool) {
	var list []string
	heads := firstHeads()
	for size := 1; size <= n; size++ {
		for _, head := range heads {
			if !isBase(head) {
				continue
			}
			if len(list) >= most {
				return nil, false
			}
			list = append(list, spell(head))
		}
		if size < n {
			heads = longerHeads(heads)
		}
	}
	return list, true
}

// firstHeads answers all lists of one edge, by their bytes.
func firstHeads() [][]edge {
	var heads [][]edge
	for e := edge(0); e < edgeKinds; e++ {
		heads = append(heads, []edge{e})
	}
	return heads
}

// longerHeads answers each head with one edge more, in all ways in which a
// base may go on. Since heads come by their bytes, so do the longer ones.
func longerHeads(heads [][]edge) [][]edge {
	var list [][]edge
	for _, head := range heads {
		for e := edge(0); e < edgeKinds; e++ {
			if !canFollow(head, e) {
				continue
			}
			longer := rotated(head, 0)
			longer = append(longer, e)
			list = append(list, longer)
		}
	}
	return list
}

// canFollow tells whether e may stand behind the head of a base: no edge of a
// base is less than its first, or the rotation that begins there would be less.
func canFollow(head []edge, e edge) bool {
	if len(head) == 0 {
		return true
	}
	return e >= head[0] && e.joins(head[len(head)-1])
}

// isBase tells whether Check answers OK at the edges, and no rotation of them is less.
func isBase(edges []edge) bool {
	errno, _ := checkEdges(edges)
	if errno != OK {
		return false
	}
	least := leastRotation(edges)
	return !comesAhead(least, edges)
}
