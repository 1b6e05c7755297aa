package litmus_test

import (
	"math/rand"
	"regexp"
	"slices"
	"strings"

	"litmus/litmus"
)

// What the document says, told a second time and in another way than the
// program does: by patterns, sorted texts and numbered events.

// row is a row of the document's table of edges.
type row struct {
	from, to byte // R or W
	external bool // Rfe, Fre, Coe
	program  bool // P or F
}

var table = map[string]row{
	"Rfe": {'W', 'R', true, false}, "Rfi": {'W', 'R', false, false},
	"Fre": {'R', 'W', true, false}, "Fri": {'R', 'W', false, false},
	"Coe": {'W', 'W', true, false}, "Coi": {'W', 'W', false, false},
	"PRR": {'R', 'R', false, true}, "PRW": {'R', 'W', false, true},
	"PWR": {'W', 'R', false, true}, "PWW": {'W', 'W', false, true},
	"FRR": {'R', 'R', false, true}, "FRW": {'R', 'W', false, true},
	"FWR": {'W', 'R', false, true}, "FWW": {'W', 'W', false, true},
}

const onePattern = `(?:Rf[ei]|Fr[ei]|Co[ei]|[PF][RW][RW])`

var (
	wholePattern = regexp.MustCompile(`^(?:` + onePattern + ` )*` + onePattern + `$`)
	headPattern  = regexp.MustCompile(`^(?:` + onePattern + ` )*(?:` + onePattern + `|Rf|Fr|Co|[PF][RW]|[RFCP])?$`)
)

// wantCheck is what Check is asked to answer.
func wantCheck(text string) (litmus.Errno, int) {
	if len(text) > 63 {
		return litmus.ErrLong, 0
	}
	if !wholePattern.MatchString(text) {
		for at := range len(text) {
			if !headPattern.MatchString(text[:at+1]) {
				return litmus.ErrEdge, at
			}
		}
		return litmus.ErrEdge, len(text)
	}
	names := strings.Split(text, " ")
	external, program := 0, 0
	for i, name := range names {
		ahead := names[(i+len(names)-1)%len(names)]
		if table[name].from != table[ahead].to {
			return litmus.ErrJoin, i
		}
		if table[name].external {
			external++
		}
		if table[name].program {
			program++
		}
	}
	switch {
	case external < 2:
		return litmus.ErrThreads, 0
	case program < 2:
		return litmus.ErrCells, 0
	case slices.Max(wantWrites(text, program)) > 2:
		return litmus.ErrWrites, 0
	}
	return litmus.OK, 0
}

// wantWrites counts the writes of each cell, over the events numbered as the document numbers them.
func wantWrites(text string, program int) []int {
	names := strings.Split(wantBase(text), " ")
	last := 0
	for i, name := range names {
		if table[name].external {
			last = i
		}
	}
	writes := make([]int, program)
	passed := 0
	for k := range names {
		edge := table[names[(last+1+k)%len(names)]]
		if edge.from == 'W' {
			writes[passed%program]++
		}
		if edge.program {
			passed++
		}
	}
	return writes
}

// rotations answers all rotations of a text that is made of edges.
func rotations(text string) []string {
	names := strings.Split(text, " ")
	var list []string
	for i := range names {
		list = append(list, strings.Join(slices.Concat(names[i:], names[:i]), " "))
	}
	return list
}

func wantBase(text string) string { return slices.Min(rotations(text)) }

// edgeNames answers all edges by their bytes.
func edgeNames() []string {
	var names []string
	for name := range table {
		names = append(names, name)
	}
	slices.Sort(names)
	return names
}

// texts answers all lists of n edges, joined or not, or those alone that join up to the last one's end.
func texts(n int, joined bool) []string {
	list := []string{""}
	for range n {
		var longer []string
		for _, head := range list {
			for _, name := range edgeNames() {
				if head == "" {
					longer = append(longer, name)
				} else if !joined || table[head[len(head)-3:]].to == table[name].from {
					longer = append(longer, head+" "+name)
				}
			}
		}
		list = longer
	}
	if !joined {
		return list
	}
	return slices.DeleteFunc(list, func(s string) bool { return table[s[len(s)-3:]].to != table[s[:3]].from })
}

// wantAll answers the bases of just n edges.
func wantAll(n int) []string {
	var list []string
	for _, s := range texts(n, true) {
		if e, _ := wantCheck(s); e == litmus.OK {
			list = append(list, wantBase(s))
		}
	}
	slices.Sort(list)
	return slices.Compact(list)
}

// someTexts answers count lists of 1 to 16 edges, the same ones each time; most of them join.
func someTexts(count int) []string {
	source := rand.New(rand.NewSource(1))
	names := edgeNames()
	var list []string
	for len(list) < count {
		var edges []string
		for range 1 + source.Intn(16) {
			name := names[source.Intn(len(names))]
			for len(edges) > 0 && source.Intn(40) > 0 && table[edges[len(edges)-1]].to != table[name].from {
				name = names[source.Intn(len(names))]
			}
			edges = append(edges, name)
		}
		list = append(list, strings.Join(edges, " "))
	}
	return list
}
