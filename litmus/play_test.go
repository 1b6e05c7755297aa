package litmus_test

import (
	"math"
	"math/rand"
	"reflect"
	"slices"
	"testing"

	"litmus/litmus"
)

// wantPlay is what Play is asked to answer at a sound test: the moves are
// functions, and a buffer is a list of instructions.
func wantPlay(x litmus.Test, model int, script []int) ([]int, bool) {
	cells := make([]int, 16)
	regs := make([][]int, len(x.Code))
	rest := slices.Clone(x.Code)
	buffers := make([][]litmus.Ins, len(x.Code))
	for i := range regs {
		regs[i] = make([]int, 16)
	}
	moves := func() []func() {
		var list []func()
		for i := range x.Code {
			if len(rest[i]) > 0 && (rest[i][0].Op != 3 || len(buffers[i]) == 0) {
				list = append(list, func() {
					ins := rest[i][0]
					rest[i] = rest[i][1:]
					switch {
					case ins.Op == 1 && model == 0:
						cells[ins.Cell] = ins.Val
					case ins.Op == 1:
						buffers[i] = append(buffers[i], ins)
					case ins.Op == 2:
						regs[i][ins.Reg] = cells[ins.Cell]
						for _, store := range buffers[i] {
							if store.Cell == ins.Cell {
								regs[i][ins.Reg] = store.Val
							}
						}
					}
				})
			}
			if len(buffers[i]) > 0 {
				list = append(list, func() {
					cells[buffers[i][0].Cell] = buffers[i][0].Val
					buffers[i] = buffers[i][1:]
				})
			}
		}
		return list
	}
	for _, k := range script {
		if k < 0 {
			k = ^k
		}
		if list := moves(); len(list) > 0 {
			list[k%len(list)]()
		}
	}
	for list := moves(); len(list) > 0; list = moves() {
		list[0]()
	}
	numbers := append(slices.Concat(regs...), cells...)
	all := true
	for _, c := range x.Want {
		if c.Thread == -1 {
			all = all && cells[c.Cell] == c.Val
		} else {
			all = all && regs[c.Thread][c.Reg] == c.Val
		}
	}
	return numbers, all
}

func parsed(t *testing.T, text string) litmus.Test {
	t.Helper()
	x, e, at := litmus.Parse(text)
	if e != litmus.OK {
		t.Fatalf("P9: Parse(%q): %d, %d", text, e, at)
	}
	return x
}

func TestPlayTable(t *testing.T) {
	const (
		both      = "litmus x\nP0: a=1 r0=b\nP1: b=1 r0=a\nwant 0:r0=0 1:r0=0\n"
		fenced    = "litmus x\nP0: a=1 fence r0=b\nP1: b=1 fence r0=a\nwant 0:r0=0 1:r0=0\n"
		own       = "litmus x\nP0: a=1 a=2 b=3 r0=a r1=b r2=c\nP1: r0=a r1=b\nwant 0:r0=2 0:r1=3 1:r0=0 a=2\n"
		passed    = "litmus x\nP0: a=1 b=1\nP1: r0=b r1=a\nwant 1:r0=1 1:r1=0\n"
		nothing   = "litmus x\nP0: fence fence\nP1: fence\nwant\n"
		again     = "litmus x\nP0: a=3\nP1: a=4\nP2: r5=a r5=a r6=a\nwant a=3\n"
		untouched = "litmus x\nP0: a=1\nwant a=1 b=0 0:rf=0\n"
	)
	for _, c := range []struct {
		text   string
		model  int
		script []int
		got    [][2]int // numbers of the answer that are not 0, with their places
		all    bool
	}{
		// no script: thread 0 to its end, its drains behind it, then thread 1
		{both, 0, nil, [][2]int{{16, 1}, {32, 1}, {33, 1}}, false},
		{both, 1, nil, [][2]int{{16, 1}, {32, 1}, {33, 1}}, false},
		{both, 1, []int{}, [][2]int{{16, 1}, {32, 1}, {33, 1}}, false},
		// numbers are taken modulo how many moves there are
		{both, 0, []int{1, 1}, [][2]int{{0, 1}, {32, 1}, {33, 1}}, false},
		{both, 0, []int{3, 5}, [][2]int{{0, 1}, {32, 1}, {33, 1}}, false},
		{both, 1, []int{0, 2, 0, 1}, [][2]int{{32, 1}, {33, 1}}, true},
		{both, 1, []int{2, 5, 4, 4}, [][2]int{{32, 1}, {33, 1}}, true},
		// below 0: -1 is 0, -2 is 1, and so on
		{both, 1, []int{-1, -3, -1, -2}, [][2]int{{32, 1}, {33, 1}}, true},
		{both, 0, []int{-2, -2}, [][2]int{{0, 1}, {32, 1}, {33, 1}}, false},
		{both, 0, []int{math.MinInt, math.MinInt}, [][2]int{{0, 1}, {32, 1}, {33, 1}}, false},
		{both, 0, []int{math.MaxInt, math.MaxInt}, [][2]int{{0, 1}, {32, 1}, {33, 1}}, false},
		// a longer script than the play
		{both, 1, []int{0, 2, 0, 1, 0, 0, 7, -7, math.MinInt}, [][2]int{{32, 1}, {33, 1}}, true},
		{nothing, 1, []int{5, 5, 5, 5, 5, 5}, nil, true},
		{nothing, 0, nil, nil, true},
		// a fence waits for the buffer: till then the drain is its thread's only move
		{fenced, 1, []int{0, 1, 0, 1}, [][2]int{{0, 1}, {16, 1}, {32, 1}, {33, 1}}, false},
		{fenced, 1, []int{0, 1, 0, 2, 2, 1}, [][2]int{{16, 1}, {32, 1}, {33, 1}}, false},
		// its own stores are read from the buffer, the youngest first; others see the cells
		{own, 1, []int{0, 0, 0, 2, 2}, [][2]int{{0, 2}, {1, 3}, {32, 2}, {33, 3}}, true},
		{own, 1, []int{0, 0, 1, 0, 0, 0}, [][2]int{{0, 2}, {1, 3}, {16, 2}, {17, 3}, {32, 2}, {33, 3}}, false},
		{own, 1, []int{0, 0, 1, 2, 0}, [][2]int{{0, 2}, {1, 3}, {16, 1}, {17, 3}, {32, 2}, {33, 3}}, false},
		{own, 0, []int{0, 1}, [][2]int{{0, 2}, {1, 3}, {16, 1}, {17, 3}, {32, 2}, {33, 3}}, false},
		// the oldest store leaves the buffer first
		{passed, 1, []int{0, 0, 0, 1, 1}, [][2]int{{17, 1}, {32, 1}, {33, 1}}, false},
		{passed, 1, []int{0, 0, 0, 0}, [][2]int{{16, 1}, {17, 1}, {32, 1}, {33, 1}}, false},
		// the last number that is written stands
		{again, 0, []int{0, 1, 0}, [][2]int{{37, 4}, {38, 4}, {48, 4}}, false},
		{again, 0, []int{1, 1, 0, 0, 0}, [][2]int{{37, 3}, {38, 3}, {48, 3}}, true},
		{again, 1, []int{0, 1, 1, 1, 0, 0}, [][2]int{{37, 3}, {38, 3}, {48, 3}}, true},
		{untouched, 1, nil, [][2]int{{16, 1}}, true},
	} {
		x := parsed(t, c.text)
		want := make([]int, 16*len(x.Code)+16)
		for _, at := range c.got {
			want[at[0]] = at[1]
		}
		if l, all, e := litmus.Play(x, c.model, c.script); !slices.Equal(l, want) || all != c.all || e != litmus.OK {
			t.Errorf("P10: Play(%q, %d, %v) = %v, %v, %d, want %v, %v", c.text, c.model, c.script, l, all, e, want, c.all)
		}
	}
}

func TestPlayErrors(t *testing.T) {
	x := parsed(t, "litmus x\nP0: a=1\nwant\n")
	for _, model := range []int{math.MinInt, -2, -1, 2, 3, 1 << 32, math.MaxInt} {
		if l, all, e := litmus.Play(x, model, []int{0}); l != nil || all || e != litmus.ErrModel {
			t.Errorf("P10: Play(.., %d, ..) = %v, %v, %d, want ErrModel", model, l, all, e)
		}
	}
	for _, model := range []int{-1, 0, 1, 2} {
		for _, y := range nearTheLimits() {
			if wantSound(y) {
				continue
			}
			if l, all, e := litmus.Play(y, model, []int{0}); l != nil || all || e != litmus.ErrTest {
				t.Errorf("P10: Play(%+v, %d, ..) = %v, %v, %d, want ErrTest", y, model, l, all, e)
			}
		}
	}
}

// someScript answers numbers of all kinds: small, great and below 0.
func someScript(source *rand.Rand, length int) []int {
	var script []int
	for range length {
		switch source.Intn(4) {
		case 0:
			script = append(script, -source.Intn(10))
		case 1:
			script = append(script, int(source.Uint64()))
		default:
			script = append(script, source.Intn(10))
		}
	}
	return script
}

func TestPlaySomeTests(t *testing.T) {
	source := rand.New(rand.NewSource(4))
	met := map[bool]int{}
	for range 20000 {
		x := someTest(source, 1+source.Intn(4), 1+source.Intn(6), 0, 1+source.Intn(3))
		if source.Intn(50) == 0 {
			x = someTest(source, 16, 32, 0, 16)
		}
		script := someScript(source, source.Intn(70))
		model := source.Intn(2)
		want, _ := wantPlay(x, model, script)
		claimSome(source, &x, want)
		_, wantAll := wantPlay(x, model, script)
		given := slices.Clone(script)
		l, all, e := litmus.Play(x, model, script)
		if !slices.Equal(l, want) || all != wantAll || e != litmus.OK {
			t.Fatalf("P10: Play(%+v, %d, %v) = %v, %v, %d, want %v, %v", x, model, script, l, all, e, want, wantAll)
		}
		if !slices.Equal(script, given) {
			t.Errorf("P2: Play changed the script %v to %v", given, script)
		}
		met[all]++
	}
	if met[true] < 1000 || met[false] < 1000 {
		t.Errorf("the claims of %d plays hold, of %d they do not", met[true], met[false])
	}
}

// claimSome claims what some of the numbers are; one claim may be wrong.
func claimSome(source *rand.Rand, x *litmus.Test, numbers []int) {
	for range source.Intn(6) {
		at := source.Intn(len(numbers))
		c := litmus.Claim{Thread: at / 16, Reg: at % 16, Val: numbers[at]}
		if c.Thread == len(x.Code) {
			c = litmus.Claim{Thread: -1, Cell: at % 16, Val: numbers[at]}
		}
		if source.Intn(8) == 0 {
			c.Val = (c.Val + 1) % 10
		}
		x.Want = append(x.Want, c)
	}
}

// ends answers all ends of the registers 0 of two threads that scripts of six small numbers lead to.
func ends(t *testing.T, cycle string, model int) map[[2]int]bool {
	b, _, _ := litmus.Build(cycle)
	met := map[[2]int]bool{}
	for n := range 4 * 4 * 4 * 4 * 4 * 4 {
		var script []int
		for range 6 {
			script = append(script, n%4)
			n /= 4
		}
		l, all, e := litmus.Play(b, model, script)
		if e != litmus.OK || len(l) != 48 {
			t.Fatalf("P10: Play of %q = %v, %v, %d", cycle, l, all, e)
		}
		met[[2]int{l[0], l[16]}] = true
	}
	return met
}

func TestPlayMeetsAllEnds(t *testing.T) {
	few := map[[2]int]bool{{0, 1}: true, {1, 0}: true, {1, 1}: true}
	all := map[[2]int]bool{{0, 0}: true, {0, 1}: true, {1, 0}: true, {1, 1}: true}
	for _, c := range []struct {
		cycle string
		model int
		want  map[[2]int]bool
	}{
		{"PWR Fre PWR Fre", 0, few}, {"PWR Fre PWR Fre", 1, all},
		{"FWR Fre PWR Fre", 1, all}, {"FWR Fre FWR Fre", 0, few}, {"FWR Fre FWR Fre", 1, few},
	} {
		if got := ends(t, c.cycle, c.model); !reflect.DeepEqual(got, c.want) {
			t.Errorf("P10: %q at model %d ends in %v, want %v", c.cycle, c.model, got, c.want)
		}
	}
}

func TestPlayIsNewMemory(t *testing.T) {
	x := parsed(t, "litmus x\nP0: a=1 r0=a\nwant a=1\n")
	script := []int{0, 1}
	first, _, _ := litmus.Play(x, 1, script)
	kept := slices.Clone(first)
	again, _, _ := litmus.Play(x, 1, script)
	for i := range again {
		again[i] = 99
	}
	if !slices.Equal(first, kept) {
		t.Error("P2: an answer of Play changed when a later one was written over")
	}
	if third, all, _ := litmus.Play(x, 1, script); !slices.Equal(third, kept) || !all {
		t.Error("P2: an answer of Play that was written over changed a later one")
	}
}

// A script may be as long as memory allows: nothing is made of it behind the play's end.
func TestPlayLongScript(t *testing.T) {
	x := parsed(t, "litmus x\nP0: a=1 r0=b\nP1: b=1 r0=a\nwant 0:r0=0 1:r0=0\n")
	script := append([]int{0, 2, 0, 1}, make([]int, 1<<22)...)
	if _, all, e := litmus.Play(x, 1, script); !all || e != litmus.OK {
		t.Errorf("P10: Play with a long script = %v, %d", all, e)
	}
}
