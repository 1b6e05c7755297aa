package litmus_test

import (
	"fmt"
	"math"
	"math/rand"
	"reflect"
	"regexp"
	"slices"
	"strings"
	"testing"
	"unsafe"

	"litmus/litmus"
)

// wantSound tells whether a test is sound.
func wantSound(x litmus.Test) bool {
	in := func(n, from, to int) bool { return from <= n && n <= to }
	sound := in(len(x.Name), 0, 63) && in(len(x.Code), 1, 16) && in(len(x.Want), 0, 32)
	for _, b := range []byte(x.Name) {
		sound = sound && in(int(b), 32, 126)
	}
	for _, code := range x.Code {
		sound = sound && in(len(code), 1, 32)
		for _, ins := range code {
			sound = sound && in(ins.Cell, 0, 15) && in(ins.Reg, 0, 15) && in(ins.Val, 0, 9)
			used := map[int]litmus.Ins{1: {1, 0, ins.Cell, ins.Val}, 2: {2, ins.Reg, ins.Cell, 0}, 3: {Op: 3}}
			sound = sound && used[ins.Op] == ins && ins.Op != 0
		}
	}
	for _, c := range x.Want {
		sound = sound && in(c.Cell, 0, 15) && in(c.Reg, 0, 15) && in(c.Val, 0, 9) && in(c.Thread, -1, len(x.Code)-1)
		sound = sound && (c.Thread == -1 && c.Reg == 0 || c.Thread != -1 && c.Cell == 0)
	}
	return sound
}

// wantPrint is the text of a sound test.
func wantPrint(x litmus.Test) string {
	var s strings.Builder
	fmt.Fprintf(&s, "litmus %s\n", x.Name)
	for i, code := range x.Code {
		fmt.Fprintf(&s, "P%x:", i)
		for _, ins := range code {
			switch ins.Op {
			case 1:
				fmt.Fprintf(&s, " %c=%d", 'a'+ins.Cell, ins.Val)
			case 2:
				fmt.Fprintf(&s, " r%x=%c", ins.Reg, 'a'+ins.Cell)
			case 3:
				s.WriteString(" fence")
			}
		}
		s.WriteString("\n")
	}
	s.WriteString("want")
	for _, c := range x.Want {
		if c.Thread == -1 {
			fmt.Fprintf(&s, " %c=%d", 'a'+c.Cell, c.Val)
		} else {
			fmt.Fprintf(&s, " %x:r%x=%d", c.Thread, c.Reg, c.Val)
		}
	}
	s.WriteString("\n")
	return s.String()
}

var (
	namePattern   = regexp.MustCompile(`^litmus [ -~]{0,63}\n$`)
	threadPattern = regexp.MustCompile(`^P([0-9a-f]):(?: (?:[a-p]=[0-9]|r[0-9a-f]=[a-p]|fence)){1,32}\n$`)
	wantPattern   = regexp.MustCompile(`^want(?: (?:[a-p]=[0-9]|[0-9a-f]:r[0-9a-f]=[0-9])){0,32}\n$`)
	ofThread      = regexp.MustCompile(`([0-9a-f]):`)
)

// wantPlace answers the number of the first line that cannot stand where it does, or -1, if the text is a test's.
func wantPlace(text string) int {
	threads, ended := 0, false
	lines := strings.SplitAfter(text, "\n")
	if lines[len(lines)-1] == "" {
		lines = lines[:len(lines)-1]
	}
	for i, line := range lines {
		can := false
		switch {
		case ended:
		case i == 0:
			can = namePattern.MatchString(line)
		case threads > 0 && wantPattern.MatchString(line):
			can, ended = true, true
			for _, m := range ofThread.FindAllStringSubmatch(line, -1) {
				can = can && strings.Index("0123456789abcdef", m[1]) < threads
			}
		case threads < 16:
			m := threadPattern.FindStringSubmatch(line)
			can = m != nil && m[1] == fmt.Sprintf("%x", threads)
			threads++
		}
		if !can {
			return i
		}
	}
	if ended {
		return -1
	}
	return len(lines)
}

// parseOne tells whether the text is a test's.
func parseOne(t *testing.T, text string) bool {
	t.Helper()
	x, e, at := litmus.Parse(text)
	want := wantPlace(text)
	switch {
	case len(text) > 4096:
		if e != litmus.ErrLong || at != 0 || !reflect.DeepEqual(x, litmus.Test{}) {
			t.Errorf("P9: Parse of %d bytes = %+v, %d, %d, want ErrLong", len(text), x, e, at)
		}
		return false
	case want >= 0:
		if e != litmus.ErrText || at != want || !reflect.DeepEqual(x, litmus.Test{}) {
			t.Errorf("P9: Parse(%q) = %+v, %d, %d, want ErrText, %d", text, x, e, at, want)
		}
		return false
	}
	if e != litmus.OK || at != 0 || !wantSound(x) || wantPrint(x) != text {
		t.Errorf("P9: Parse(%q) = %+v, %d, %d, want the test with that text", text, x, e, at)
	}
	return true
}

// printOne tells whether the test is sound.
func printOne(t *testing.T, x litmus.Test) bool {
	t.Helper()
	s, e := litmus.Print(x)
	if !wantSound(x) {
		if s != "" || e != litmus.ErrTest {
			t.Errorf("P8: Print(%+v) = %q, %d, want ErrTest", x, s, e)
		}
		return false
	}
	if s != wantPrint(x) || e != litmus.OK {
		t.Errorf("P8: Print(%+v) = %q, %d, want %q", x, s, e, wantPrint(x))
	}
	y, e, at := litmus.Parse(s)
	if len(x.Want) == 0 {
		y.Want = x.Want
	}
	if !reflect.DeepEqual(x, y) || e != litmus.OK || at != 0 {
		t.Errorf("P9: Parse(%q) = %+v, %d, %d, want %+v", s, y, e, at, x)
	}
	return true
}

// someTest answers a sound test.
func someTest(source *rand.Rand, threads, length, claims, cells int) litmus.Test {
	x := litmus.Test{Name: strings.Repeat("x ~", source.Intn(22))}
	for range threads {
		var code []litmus.Ins
		for range length {
			switch source.Intn(7) {
			case 0, 1, 2:
				code = append(code, litmus.Ins{Op: 1, Cell: source.Intn(cells), Val: source.Intn(10)})
			case 3, 4, 5:
				code = append(code, litmus.Ins{Op: 2, Reg: source.Intn(16), Cell: source.Intn(cells)})
			default:
				code = append(code, litmus.Ins{Op: 3})
			}
		}
		x.Code = append(x.Code, code)
	}
	for range claims {
		if source.Intn(2) == 0 {
			x.Want = append(x.Want, litmus.Claim{Thread: -1, Cell: source.Intn(cells), Val: source.Intn(10)})
		} else {
			x.Want = append(x.Want, litmus.Claim{Thread: source.Intn(threads), Reg: source.Intn(16), Val: source.Intn(10)})
		}
	}
	return x
}

func TestPrintTable(t *testing.T) {
	for _, c := range []struct {
		x    litmus.Test
		want string
	}{
		{litmus.Test{Code: [][]litmus.Ins{{{Op: 3}}}}, "litmus \nP0: fence\nwant\n"},
		{litmus.Test{Name: "a  b", Code: [][]litmus.Ins{{{1, 0, 15, 9}, {2, 15, 0, 0}}, {{2, 10, 5, 0}}}, Want: []litmus.Claim{{1, 9, 0, 0}, {-1, 0, 1, 3}, {0, 11, 0, 9}}},
			"litmus a  b\nP0: p=9 rf=a\nP1: ra=f\nwant 1:r9=0 b=3 0:rb=9\n"},
	} {
		if s, e := litmus.Print(c.x); s != c.want || e != litmus.OK {
			t.Errorf("P8: Print(%+v) = %q, %d, want %q", c.x, s, e, c.want)
		}
		printOne(t, c.x)
	}
}

func TestPrintSomeTests(t *testing.T) {
	source := rand.New(rand.NewSource(2))
	for range 2000 {
		x := someTest(source, 1+source.Intn(16), 1+source.Intn(32), source.Intn(33), 16)
		if !printOne(t, x) {
			t.Errorf("%+v ought to be sound", x)
		}
	}
	x := someTest(source, 16, 32, 32, 16)
	for _, code := range x.Code {
		for i := range code {
			code[i] = litmus.Ins{Op: 3}
		}
	}
	for i := range x.Want {
		x.Want[i] = litmus.Claim{Thread: 15, Reg: 15, Val: 9}
	}
	x.Name = strings.Repeat("~", 63)
	if s, _ := litmus.Print(x); !printOne(t, x) || len(s) != 71+16*196+229 {
		t.Errorf("P8: the longest text has %d bytes", len(s))
	}
}

// nearTheLimits answers tests near the limits of soundness, on both sides of them.
func nearTheLimits() []litmus.Test {
	one := func() litmus.Test {
		return litmus.Test{Name: "n", Code: [][]litmus.Ins{{{Op: 3}}, {{Op: 3}, {Op: 2, Reg: 1}}}, Want: []litmus.Claim{{Thread: 1, Reg: 1}}}
	}
	var list []litmus.Test
	numbers := []int{math.MinInt, -17, -2, -1, 0, 1, 2, 3, 4, 9, 10, 15, 16, 17, 256, 1 << 32, math.MaxInt}
	for _, n := range numbers {
		for op := range 5 {
			for _, ins := range []litmus.Ins{{op, n, 0, 0}, {op, 0, n, 0}, {op, 0, 0, n}, {n, op, 0, 0}, {n, 0, op, op}} {
				x := one()
				x.Code[1][1] = ins
				list = append(list, x)
			}
		}
		for thread := -2; thread < 4; thread++ {
			for _, c := range []litmus.Claim{{thread, n, 0, 0}, {thread, 0, n, 0}, {thread, 0, 0, n}, {n, thread, 0, 0}, {n, 0, thread, 0}} {
				x := one()
				x.Want = append(x.Want, c)
				list = append(list, x)
			}
		}
		if n < 0 || n > 256 {
			continue
		}
		named, threaded, long, claimed := one(), one(), one(), one()
		named.Name = strings.Repeat("~", n)
		threaded.Code = slices.Repeat([][]litmus.Ins{{{Op: 3}}}, n)
		threaded.Want = nil
		long.Code[0] = slices.Repeat([]litmus.Ins{{Op: 1}}, 2*n)
		long.Code[1] = slices.Repeat([]litmus.Ins{{Op: 2}}, n+15)
		claimed.Want = slices.Repeat([]litmus.Claim{{Thread: -1}}, n+16)
		list = append(list, named, threaded, long, claimed)
	}
	for _, n := range []int{31, 32, 33, 62, 63, 64} {
		named, long, claimed := one(), one(), one()
		named.Name = strings.Repeat(" ", n)
		long.Code[1] = slices.Repeat([]litmus.Ins{{Op: 3}}, n)
		claimed.Want = slices.Repeat([]litmus.Claim{{Thread: 1}}, n)
		list = append(list, named, long, claimed)
	}
	for b := range 256 {
		x := one()
		x.Name = "n" + string([]byte{byte(b)})
		list = append(list, x)
	}
	return list
}

func TestPrintNearTheLimits(t *testing.T) {
	met := map[bool]int{}
	for _, x := range append(nearTheLimits(), wildTests()...) {
		met[printOne(t, x)]++
		// Play asks for soundness ahead of the model.
		if l, all, e := litmus.Play(x, 2, nil); l != nil || all || (e == litmus.ErrTest) == wantSound(x) || (e == litmus.ErrModel) != wantSound(x) {
			t.Errorf("P10: Play(%+v, 2, nil) = %v, %v, %d", x, l, all, e)
		}
	}
	if met[true] < 50 || met[false] < 50 {
		t.Errorf("%d tests are sound, %d are not", met[true], met[false])
	}
}

func TestParseTable(t *testing.T) {
	fences := func(n int) string { return strings.Repeat(" fence", n) }
	threads := func(n int) string {
		s := ""
		for i := range n {
			s += fmt.Sprintf("P%x: fence\n", i)
		}
		return s
	}
	for _, c := range []struct {
		text string
		at   int // -1: it is a test's
	}{
		{"litmus x\nP0: a=1\nwant a=1\n", -1},
		{"litmus \nP0: fence\nwant\n", -1},
		{"litmus   \nP0: f=0 rf=f fence\nwant 0:rf=9 f=9\n", -1},
		// the text ends too early: the number of lines
		{"", 0}, {"litmus x\n", 1}, {"litmus x\nP0: fence\n", 2}, {"litmus x\n" + threads(16), 17},
		// something behind the last newline byte, be it ever so much like a line
		{"l", 0}, {"litmus x", 0}, {"litmus x\nP0: fence", 1}, {"litmus x\nP0: fence\nwant", 2},
		{"litmus x\nP0: fence\nwant\nx", 3}, {"litmus x\nP0: fence\nwant\n ", 3}, {"litmus x\nP0: fence\nwant\n\x00", 3},
		// lines behind the last one
		{"litmus x\nP0: fence\nwant\n\n", 3}, {"litmus x\nP0: fence\nwant\nP1: fence\n", 3}, {"litmus x\nP0: fence\nwant\nwant\n", 3},
		// the first wrong line counts, whatever follows
		{"litmus\nP1:\nwant x\n", 0}, {"litmus x\nP1: fence\nwant x\n", 1}, {"x\n", 0}, {"\n", 0}, {"\n\n\n", 0},
		// the first line
		{"litmus\nP0: fence\nwant\n", 0}, {"litmus\tx\nP0: fence\nwant\n", 0}, {" litmus x\nP0: fence\nwant\n", 0}, {"Litmus x\nP0: fence\nwant\n", 0},
		{"litmus " + strings.Repeat("x", 63) + "\nP0: fence\nwant\n", -1}, {"litmus " + strings.Repeat("x", 64) + "\nP0: fence\nwant\n", 0},
		{"litmus \x1f\nP0: fence\nwant\n", 0}, {"litmus \x7f\nP0: fence\nwant\n", 0}, {"litmus é\nP0: fence\nwant\n", 0}, {"litmus x\r\nP0: fence\nwant\n", 0},
		// threads: none, out of their order, too many, empty
		{"litmus x\nwant\n", 1}, {"litmus x\n\nP0: fence\nwant\n", 1}, {"litmus x\nP1: fence\nwant\n", 1}, {"litmus x\nP0: fence\nP2: fence\nwant\n", 2},
		{"litmus x\nP0: fence\nP0: fence\nwant\n", 2}, {"litmus x\n" + threads(16) + "want f:rf=0\n", -1}, {"litmus x\n" + threads(16) + "Pg: fence\nwant\n", 17},
		{"litmus x\n" + threads(16) + "P10: fence\nwant\n", 17}, {"litmus x\n" + threads(16) + "P?: fence\nwant\n", 17}, {"litmus x\n" + threads(10) + "PA: fence\nwant\n", 11},
		{"litmus x\nP0:\nwant\n", 1}, {"litmus x\nP0: \nwant\n", 1}, {"litmus x\nP0\nwant\n", 1}, {"litmus x\nP0 fence\nwant\n", 1}, {"litmus x\nP00: fence\nwant\n", 1}, {"litmus x\np0: fence\nwant\n", 1},
		// instructions: 32 are well, 33 are not
		{"litmus x\nP0:" + fences(32) + "\nwant\n", -1}, {"litmus x\nP0:" + fences(33) + "\nwant\n", 1},
		{"litmus x\nP0:fence\nwant\n", 1}, {"litmus x\nP0:  fence\nwant\n", 1}, {"litmus x\nP0: fence \nwant\n", 1}, {"litmus x\nP0: fence  fence\nwant\n", 1},
		{"litmus x\nP0: fences\nwant\n", 1}, {"litmus x\nP0: fenc\nwant\n", 1}, {"litmus x\nP0: Fence\nwant\n", 1}, {"litmus x\nP0: fence\tfence\nwant\n", 1},
		{"litmus x\nP0: q=1\nwant\n", 1}, {"litmus x\nP0: A=1\nwant\n", 1}, {"litmus x\nP0: a=10\nwant\n", 1}, {"litmus x\nP0: a=a\nwant\n", 1}, {"litmus x\nP0: a=\nwant\n", 1}, {"litmus x\nP0: a1\nwant\n", 1},
		{"litmus x\nP0: a=-\nwant\n", 1}, {"litmus x\nP0: a:1\nwant\n", 1}, {"litmus x\nP0: =1\nwant\n", 1},
		{"litmus x\nP0: r0=q\nwant\n", 1}, {"litmus x\nP0: rg=a\nwant\n", 1}, {"litmus x\nP0: rA=a\nwant\n", 1}, {"litmus x\nP0: r10=a\nwant\n", 1}, {"litmus x\nP0: r0=1\nwant\n", 1},
		{"litmus x\nP0: r0:a\nwant\n", 1}, {"litmus x\nP0: s0=a\nwant\n", 1}, {"litmus x\nP0: r=a\nwant\n", 1}, {"litmus x\nP0: r0=\nwant\n", 1}, {"litmus x\nP0: 0:r0=1\nwant\n", 1},
		// claims: of threads that are there alone; 32 are well, 33 are not
		{"litmus x\nP0: fence\nwant" + strings.Repeat(" a=1", 32) + "\n", -1}, {"litmus x\nP0: fence\nwant" + strings.Repeat(" a=1", 33) + "\n", 2},
		{"litmus x\nP0: fence\nwant 0:r0=0\n", -1}, {"litmus x\nP0: fence\nwant 1:r0=0\n", 2}, {"litmus x\nP0: fence\nwant f:r0=0\n", 2}, {"litmus x\nP0: fence\nwant g:r0=0\n", 2},
		{"litmus x\nP0: fence\nwant -1:r0=0\n", 2}, {"litmus x\nP0: fence\nwant 0:rg=0\n", 2}, {"litmus x\nP0: fence\nwant 0:r0=a\n", 2}, {"litmus x\nP0: fence\nwant 0:r0=10\n", 2},
		{"litmus x\nP0: fence\nwant 0:a=1\n", 2}, {"litmus x\nP0: fence\nwant r0=a\n", 2}, {"litmus x\nP0: fence\nwant r0=1\n", 2}, {"litmus x\nP0: fence\nwant fence\n", 2}, {"litmus x\nP0: fence\nwant q=1\n", 2},
		{"litmus x\nP0: fence\nwant \n", 2}, {"litmus x\nP0: fence\nwant  a=1\n", 2}, {"litmus x\nP0: fence\nwant a=1 \n", 2}, {"litmus x\nP0: fence\nwanta=1\n", 2}, {"litmus x\nP0: fence\n want\n", 2}, {"litmus x\nP0: fence\nWant\n", 2},
		{"litmus x\nP0: fence\nwant:\n", 2}, {"litmus x\nP0: fence\n\nwant\n", 2},
		// at most 4096 bytes
		{"litmus x\nP0: fence\nwant\n" + strings.Repeat("x", 4096-24), 3}, {strings.Repeat("\n", 4096), 0},
	} {
		if got := parseOne(t, c.text); got != (c.at == -1) || wantPlace(c.text) != c.at {
			t.Errorf("P9: %.80q: want place %d, but the second telling has %d", c.text, c.at, wantPlace(c.text))
		}
	}
}

func TestParseTooLong(t *testing.T) {
	for _, s := range []string{strings.Repeat("\n", 4097), "litmus x\nP0: fence\nwant\n" + strings.Repeat("x", 4096-23), strings.Repeat("litmus x\n", 1<<17)} {
		if x, e, at := litmus.Parse(s); e != litmus.ErrLong || at != 0 || !reflect.DeepEqual(x, litmus.Test{}) {
			t.Errorf("P9: Parse of %d bytes = %+v, %d, %d, want ErrLong", len(s), x, e, at)
		}
	}
}

func TestParseOneByteAmiss(t *testing.T) {
	met := map[bool]int{}
	for _, s := range []string{"litmus x y\nP0: a=1 rf=p fence\nP1: r0=a\nwant 0:rf=0 p=9\n", "litmus \nP0: f=1\nwant\n"} {
		for at := range len(s) {
			parseOne(t, s[:at])
			parseOne(t, s[at:])
			parseOne(t, s[:at]+s[at+1:])
			for b := range 256 {
				one := string([]byte{byte(b)})
				met[parseOne(t, s[:at]+one+s[at+1:])]++
				met[parseOne(t, s[:at]+one+s[at:])]++
				parseOne(t, s+one)
			}
		}
	}
	if met[true] < 100 || met[false] < 100 {
		t.Errorf("%d texts are a test's, %d are not", met[true], met[false])
	}
}

func TestParseSomeLines(t *testing.T) {
	source := rand.New(rand.NewSource(3))
	heads := []string{"litmus ", "litmus x", "P0:", "P1:", "P2:", "want", "want", ""}
	words := []string{" a=1", " p=9", " r0=a", " fence", " 0:r0=1", " 1:ra=0", " f=1", " "}
	met := map[bool]int{}
	for range 200000 {
		s := ""
		if source.Intn(5) > 0 {
			s = "litmus \nP0: fence\n"
		}
		for range source.Intn(5) {
			s += heads[source.Intn(len(heads))]
			for range source.Intn(3) {
				s += words[source.Intn(len(words))]
			}
			if source.Intn(12) > 0 {
				s += "\n"
			}
		}
		met[parseOne(t, s)]++
	}
	if met[true] < 1000 || met[false] < 1000 {
		t.Errorf("%d texts are a test's, %d are not", met[true], met[false])
	}
}

func TestFilesAreNewMemory(t *testing.T) {
	const text = "litmus name\nP0: a=1\nP1: r0=a\nwant 1:r0=1 a=1\n"
	bytes := []byte(text)
	x, _, _ := litmus.Parse(unsafe.String(&bytes[0], len(bytes)))
	for i := range bytes {
		bytes[i] = '?'
	}
	if x.Name != "name" {
		t.Errorf("P2: the name became %q when the text's memory was used anew", x.Name)
	}
	name := []byte("name")
	x.Name = unsafe.String(&name[0], len(name))
	s, _ := litmus.Print(x)
	name[0] = '?'
	if s != text {
		t.Errorf("P2: the text became %q when the name's memory was used anew", s)
	}
	kept, _, _ := litmus.Parse(text)
	if again, _, _ := litmus.Parse(text); !listsAreApart(again) {
		t.Error("P2: two lists of one answer of Parse share memory")
	}
	overwrite(x)
	if again, _, _ := litmus.Parse(text); !reflect.DeepEqual(again, kept) || wantPrint(again) != text {
		t.Errorf("P2: writing over an answer of Parse changed another one: %+v", again)
	}
}
