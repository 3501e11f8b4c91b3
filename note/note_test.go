package note

import (
	"fmt"
	"math"
	"reflect"
	"slices"
	"strconv"
	"strings"
	"sync"
	"testing"

	"dyehouse/api"
)

const (
	least    = math.MinInt64
	greatest = math.MaxInt64
)

// numbers are numbers and their texts, by hand.
func numbers() map[int]string {
	return map[int]string{
		0:            "0",
		1:            "1",
		9:            "9",
		10:           "10",
		42:           "42",
		1024:         "1024",
		4096:         "4096",
		4097:         "4097",
		2147483647:   "2147483647",
		2147483648:   "2147483648",
		-1:           "-1",
		-10:          "-10",
		-2147483648:  "-2147483648",
		least:        "-9223372036854775808",
		least + 1:    "-9223372036854775807",
		greatest - 1: "9223372036854775806",
		greatest:     "9223372036854775807",
	}
}

// noClasses are numbers of which there is no class.
func noClasses() []int {
	return []int{least, -256, -2, -1, 2, 3, 256, 257, 1 << 32, greatest}
}

// noPlaces are kinds that are neither a register's nor a slot's.
func noPlaces() []int {
	return []int{least, -3, -2, -1, api.None, api.Vreg, api.Imm, 5, 256 + api.Preg, 256 + api.Slot, 1<<32 + api.Preg, greatest}
}

// reg is a register.
func reg(class, n int) api.Loc {
	return api.Loc{Kind: api.Preg, Class: class, N: n}
}

// slot is a slot.
func slot(n int) api.Loc {
	return api.Loc{Kind: api.Slot, N: n}
}

// seg is a segment.
func seg(v, from, to int, at api.Loc) api.Seg {
	return api.Seg{V: v, From: from, To: to, At: at}
}

// machine is a target, of each class how many registers there are, and which ones a call spoils.
func machine(g int, spoiltG []int, x int, spoiltX []int, slots int) api.Target {
	return api.Target{Regs: [2]int{g, x}, Clobber: [2][]int{spoiltG, spoiltX}, Slots: slots}
}

// roomy is a list with memory behind its length, in which there are other elements.
func roomy[T any](behind T, list ...T) []T {
	whole := append(slices.Clone(list), behind, behind, behind)
	return whole[:len(list)]
}

// same asks whether a text is what it must be.
func same(t *testing.T, got, want string) {
	t.Helper()
	if got != want {
		t.Errorf("told %q, not %q", got, want)
	}
}

// TestTarget: 15.1, of Target, by hand: no register that a call spoils, one, several; of g alone, of x alone, of both.
func TestTarget(t *testing.T) {
	for _, c := range []struct {
		target api.Target
		want   string
	}{
		{api.Target{}, "target g 0 x 0 slots 0;\n"},
		{machine(8, nil, 4, nil, 1024), "target g 8 x 4 slots 1024;\n"},
		{machine(8, []int{}, 4, []int{}, 1024), "target g 8 x 4 slots 1024;\n"},
		{machine(4, nil, 8, nil, 16), "target g 4 x 8 slots 16;\n"},
		{machine(3, []int{0}, 0, nil, 0), "target g 3 x 0 slots 0 clobber $g0;\n"},
		{machine(3, []int{2}, 0, []int{}, 7), "target g 3 x 0 slots 7 clobber $g2;\n"},
		{machine(16, []int{0, 1, 10, 15}, 0, nil, 5), "target g 16 x 0 slots 5 clobber $g0 $g1 $g10 $g15;\n"},
		{machine(0, nil, 3, []int{0}, 0), "target g 0 x 3 slots 0 clobber $x0;\n"},
		{machine(0, []int{}, 3, []int{1}, 9), "target g 0 x 3 slots 9 clobber $x1;\n"},
		{machine(2, nil, 16, []int{0, 9, 12}, 4096), "target g 2 x 16 slots 4096 clobber $x0 $x9 $x12;\n"},
		{machine(2, []int{1}, 2, []int{0}, 1), "target g 2 x 2 slots 1 clobber $g1 $x0;\n"},
		{machine(8, []int{0, 1, 2, 3}, 4, []int{0, 1}, 1024), "target g 8 x 4 slots 1024 clobber $g0 $g1 $g2 $g3 $x0 $x1;\n"},
	} {
		same(t, Target(c.target), c.want)
	}
}

// TestTargetWrong: what is wrong with a target is told as it stands: registers that there are not, twice, in any order.
func TestTargetWrong(t *testing.T) {
	for _, c := range []struct {
		target api.Target
		want   string
	}{
		{machine(17, nil, -1, nil, 4097), "target g 17 x -1 slots 4097;\n"},
		{machine(0, []int{5}, 0, []int{6}, -1), "target g 0 x 0 slots -1 clobber $g5 $x6;\n"},
		{machine(4, []int{3, 1, 1, 3}, 4, []int{2, 2, 0}, 0), "target g 4 x 4 slots 0 clobber $g3 $g1 $g1 $g3 $x2 $x2 $x0;\n"},
		{machine(4, []int{-1}, 4, []int{-2, -3}, 0), "target g 4 x 4 slots 0 clobber $g-1 $x-2 $x-3;\n"},
	} {
		same(t, Target(c.target), c.want)
	}
}

// TestTargetNumbers: each number of a target, whatever it is, stands in its place.
func TestTargetNumbers(t *testing.T) {
	for n, text := range numbers() {
		same(t, Target(machine(n, nil, 2, nil, 3)), "target g "+text+" x 2 slots 3;\n")
		same(t, Target(machine(1, nil, n, nil, 3)), "target g 1 x "+text+" slots 3;\n")
		same(t, Target(machine(1, nil, 2, nil, n)), "target g 1 x 2 slots "+text+";\n")
		same(t, Target(machine(1, []int{n}, 2, nil, 3)), "target g 1 x 2 slots 3 clobber $g"+text+";\n")
		same(t, Target(machine(1, nil, 2, []int{n}, 3)), "target g 1 x 2 slots 3 clobber $x"+text+";\n")
		same(t, Target(machine(n, []int{0, n}, n, []int{n, 4}, n)),
			"target g "+text+" x "+text+" slots "+text+" clobber $g0 $g"+text+" $x"+text+" $x4;\n")
	}
}

// TestSeg: 15.1, of Seg, by hand.
func TestSeg(t *testing.T) {
	for _, c := range []struct {
		seg  api.Seg
		want string
	}{
		{seg(2, 0, 4, reg(api.ClassG, 1)), "0..4 $g1"},
		{seg(2, 4, 9, slot(0)), "4..9 #0"},
		{seg(0, 3, 5, reg(api.ClassX, 12)), "3..5 $x12"},
		{seg(0, 10, 200, slot(4095)), "10..200 #4095"},
		{seg(0, 0, 0, reg(api.ClassG, 0)), "0..0 $g0"},
		{seg(0, 7, 7, slot(1)), "7..7 #1"},
		{seg(0, 9, 2, reg(api.ClassX, 3)), "9..2 $x3"},
		{seg(0, -1, -2, slot(3)), "-1..-2 #3"},
		{seg(0, -4, 4, reg(api.ClassG, -1)), "-4..4 $g-1"},
		{seg(0, least, greatest, slot(-1)), "-9223372036854775808..9223372036854775807 #-1"},
		{seg(0, greatest, least, slot(2)), "9223372036854775807..-9223372036854775808 #2"},
		{api.Seg{}, "0..0 "},
	} {
		same(t, Seg(c.seg), c.want)
	}
}

// TestSegNumbers: each number of a segment stands in its place, but for its virtual register's, which is not told.
func TestSegNumbers(t *testing.T) {
	for n, text := range numbers() {
		same(t, Seg(seg(n, 1, 2, reg(api.ClassG, 3))), "1..2 $g3")
		same(t, Seg(seg(5, n, 2, reg(api.ClassG, 3))), text+"..2 $g3")
		same(t, Seg(seg(5, 1, n, reg(api.ClassG, 3))), "1.."+text+" $g3")
		same(t, Seg(seg(5, 1, 2, reg(api.ClassG, n))), "1..2 $g"+text)
		same(t, Seg(seg(5, 1, 2, reg(api.ClassX, n))), "1..2 $x"+text)
		same(t, Seg(seg(5, 1, 2, slot(n))), "1..2 #"+text)
		same(t, Seg(seg(n, n, n, slot(n))), text+".."+text+" #"+text)
	}
}

// TestSegNameless: of a place whose name is empty the blank ahead of that stands.
func TestSegNameless(t *testing.T) {
	for n := range numbers() {
		for _, class := range noClasses() {
			same(t, Seg(seg(1, 2, 3, reg(class, n))), "2..3 ")
		}
		for _, kind := range noPlaces() {
			for _, class := range []int{-1, api.ClassG, api.ClassX, 2} {
				same(t, Seg(seg(1, 2, 3, api.Loc{Kind: kind, Class: class, N: n})), "2..3 ")
			}
		}
	}
}

// TestSegSlotClass: a slot is told alike, whatever its class.
func TestSegSlotClass(t *testing.T) {
	for _, class := range append(noClasses(), api.ClassG, api.ClassX) {
		same(t, Seg(seg(1, 2, 3, api.Loc{Kind: api.Slot, Class: class, N: 4})), "2..3 #4")
	}
}

// allocCase is an allocation and its text, by hand.
type allocCase struct {
	slots int
	segs  []api.Seg
	want  string
}

// allocCases are allocations: of no segments, one, several in a row of one V, and the same V again behind another one.
func allocCases() []allocCase {
	g := reg(api.ClassG, 1)
	return []allocCase{
		{0, nil, "alloc slots 0 {\n}\n"},
		{3, []api.Seg{}, "alloc slots 3 {\n}\n"},
		{-1, nil, "alloc slots -1 {\n}\n"},
		{0, []api.Seg{{}}, "alloc slots 0 {\n  %0: 0..0 ;\n}\n"},
		{0, []api.Seg{seg(0, 0, 4, g)}, "alloc slots 0 {\n  %0: 0..4 $g1;\n}\n"},
		{1, []api.Seg{seg(2, 0, 4, g), seg(2, 4, 9, slot(0))}, "alloc slots 1 {\n  %2: 0..4 $g1, 4..9 #0;\n}\n"},
		{2, []api.Seg{seg(1, 0, 1, g), seg(2, 2, 3, g)}, "alloc slots 2 {\n  %1: 0..1 $g1;\n  %2: 2..3 $g1;\n}\n"},
		{2, []api.Seg{seg(7, 0, 1, g), seg(7, 1, 2, slot(1)), seg(7, 2, 3, reg(api.ClassX, 0)), seg(3, 0, 3, slot(0))},
			"alloc slots 2 {\n  %7: 0..1 $g1, 1..2 #1, 2..3 $x0;\n  %3: 0..3 #0;\n}\n"},
		{0, []api.Seg{seg(1, 0, 1, g), seg(2, 1, 2, g), seg(1, 2, 3, g)},
			"alloc slots 0 {\n  %1: 0..1 $g1;\n  %2: 1..2 $g1;\n  %1: 2..3 $g1;\n}\n"},
		{0, []api.Seg{seg(1, 0, 1, g), seg(1, 2, 3, g), seg(2, 1, 2, g), seg(1, 3, 4, g), seg(1, 4, 5, g), seg(2, 5, 6, g), seg(2, 6, 7, g)},
			"alloc slots 0 {\n  %1: 0..1 $g1, 2..3 $g1;\n  %2: 1..2 $g1;\n  %1: 3..4 $g1, 4..5 $g1;\n  %2: 5..6 $g1, 6..7 $g1;\n}\n"},
		{0, []api.Seg{seg(4, 0, 1, g), seg(4, 0, 1, g), seg(4, 0, 1, g)}, "alloc slots 0 {\n  %4: 0..1 $g1, 0..1 $g1, 0..1 $g1;\n}\n"},
		{9, []api.Seg{seg(-1, 0, 1, g), seg(-1, 1, 2, g), seg(1, 2, 3, g), seg(-5, 9, 8, reg(2, 0)), seg(-5, 8, 9, slot(-2))},
			"alloc slots 9 {\n  %-1: 0..1 $g1, 1..2 $g1;\n  %1: 2..3 $g1;\n  %-5: 9..8 , 8..9 #-2;\n}\n"},
		{0, []api.Seg{seg(9, 5, 6, g), seg(9, 3, 4, g), seg(8, 1, 2, g)}, "alloc slots 0 {\n  %9: 5..6 $g1, 3..4 $g1;\n  %8: 1..2 $g1;\n}\n"},
	}
}

// TestAlloc: 15.1, of Alloc, by hand, with the chapter's example among them.
func TestAlloc(t *testing.T) {
	for _, c := range allocCases() {
		same(t, Alloc(api.Alloc{Slots: c.slots, Segs: c.segs}), c.want)
	}
}

// TestAllocNumbers: how many slots there are, and the virtual registers, whatever number they are.
func TestAllocNumbers(t *testing.T) {
	for n, text := range numbers() {
		same(t, Alloc(api.Alloc{Slots: n}), "alloc slots "+text+" {\n}\n")
		one := seg(n, 1, 2, slot(3))
		same(t, Alloc(api.Alloc{Segs: []api.Seg{one}}), "alloc slots 0 {\n  %"+text+": 1..2 #3;\n}\n")
		same(t, Alloc(api.Alloc{Slots: n, Segs: []api.Seg{one, one}}), "alloc slots "+text+" {\n  %"+text+": 1..2 #3, 1..2 #3;\n}\n")
		if n != 5 {
			same(t, Alloc(api.Alloc{Segs: []api.Seg{one, seg(5, 1, 2, slot(3)), one}}),
				"alloc slots 0 {\n  %"+text+": 1..2 #3;\n  %5: 1..2 #3;\n  %"+text+": 1..2 #3;\n}\n")
		}
	}
}

// TestAllocRows: a row is of one V, just as that V is: neither its sign, nor a part of it, nor the place counts.
func TestAllocRows(t *testing.T) {
	for _, pair := range [][2]int{{1, -1}, {0, 256}, {1, 1<<32 + 1}, {0, 1 << 32}, {least, greatest}, {least, 0}, {greatest, -1}} {
		a, b := strconv.Itoa(pair[0]), strconv.Itoa(pair[1])
		segs := []api.Seg{seg(pair[0], 0, 1, slot(0)), seg(pair[1], 0, 1, slot(0)), seg(pair[1], 0, 1, slot(1)), seg(pair[0], 0, 1, slot(1))}
		same(t, Alloc(api.Alloc{Segs: segs}), "alloc slots 0 {\n  %"+a+": 0..1 #0;\n  %"+b+": 0..1 #0, 0..1 #1;\n  %"+a+": 0..1 #1;\n}\n")
	}
}

// plain is a function of virtual registers, and its text.
func plain() (api.Func, string) {
	one := api.Operand{Kind: api.Vreg}
	f := api.Func{
		Name:   "f",
		Params: []api.Operand{one},
		Regs:   []api.Reg{{ID: 0}},
		Blocks: []api.Block{{Label: "a", Code: []api.Instr{
			{Op: api.OpAdd, Dst: one, Args: []api.Operand{one, {Kind: api.Imm, N: 1}}},
			{Op: api.OpRet, Args: []api.Operand{one}},
		}}},
	}
	return f, "func f(%0) {\nregs %0:g;\na:\n  %0 = add %0, 1;\n  ret %0;\n}\n"
}

// coded is machine code, and its text.
func coded() (api.Func, string) {
	one := api.Operand{Kind: api.Preg, Class: api.ClassX, N: 2, Tag: 5}
	f := api.Func{
		Machine: true,
		Name:    "m",
		Params:  []api.Operand{one},
		Regs:    []api.Reg{{ID: 5, Class: api.ClassX}},
		Blocks: []api.Block{{Label: "a", Edge: true, In: []api.Operand{one}, Code: []api.Instr{
			{Op: api.OpSpill, Dst: api.Operand{Kind: api.Slot, N: 1, Tag: 5}, Args: []api.Operand{one}},
			{Op: api.OpRet, Args: []api.Operand{{Kind: api.Imm, N: -1}}},
		}}},
	}
	return f, "machine m($x2:%5) {\nregs %5:x;\nedge a [$x2:%5]:\n  #1:%5 = spill $x2:%5;\n  ret -1;\n}\n"
}

// someFuncs are functions of both forms, and an empty one of each, with their texts.
func someFuncs() map[string]api.Func {
	one, oneText := plain()
	two, twoText := coded()
	return map[string]api.Func{
		oneText:                   one,
		twoText:                   two,
		"func () {\n}\n":          {},
		"machine e() {\n}\n":      {Machine: true, Name: "e"},
		"func a b\n\xff() {\n}\n": {Name: "a b\n\xff"},
	}
}

// TestUnit: 15.2, by hand: its Target, its Func, of both forms, and its Alloc, if it Has one.
func TestUnit(t *testing.T) {
	with := machine(8, []int{0, 3}, 4, []int{1}, 7)
	for funcText, f := range someFuncs() {
		for _, c := range allocCases() {
			a := api.Alloc{Slots: c.slots, Segs: c.segs}
			same(t, Unit(api.Unit{Target: with, Func: f, Has: true, Alloc: a}), "target g 8 x 4 slots 7 clobber $g0 $g3 $x1;\n"+funcText+c.want)
			same(t, Unit(api.Unit{Func: f, Has: true, Alloc: a}), "target g 0 x 0 slots 0;\n"+funcText+c.want)
			same(t, Unit(api.Unit{Target: with, Func: f, Alloc: a}), "target g 8 x 4 slots 7 clobber $g0 $g3 $x1;\n"+funcText)
			same(t, Unit(api.Unit{Func: f, Alloc: a}), "target g 0 x 0 slots 0;\n"+funcText)
		}
	}
	same(t, Unit(api.Unit{}), "target g 0 x 0 slots 0;\nfunc () {\n}\n")
	same(t, Unit(api.Unit{Has: true}), "target g 0 x 0 slots 0;\nfunc () {\n}\nalloc slots 0 {\n}\n")
}

// TestUnitWhole: a unit with all that one may have, as a whole.
func TestUnitWhole(t *testing.T) {
	f, _ := plain()
	u := api.Unit{
		Target: machine(8, []int{0, 1, 2, 3}, 4, []int{0, 1}, 1024),
		Func:   f,
		Has:    true,
		Alloc:  api.Alloc{Slots: 1, Segs: []api.Seg{seg(0, 0, 2, slot(0)), seg(0, 2, 4, reg(api.ClassG, 4))}},
	}
	same(t, Unit(u), `target g 8 x 4 slots 1024 clobber $g0 $g1 $g2 $g3 $x0 $x1;
func f(%0) {
regs %0:g;
a:
  %0 = add %0, 1;
  ret %0;
}
alloc slots 1 {
  %0: 0..2 #0, 2..4 $g4;
}
`)
}

// TestCall: 15.3, by hand.
func TestCall(t *testing.T) {
	for _, c := range []struct {
		name string
		args []int
		want string
	}{
		{"", nil, "()"},
		{"", []int{}, "()"},
		{"", []int{0}, "(0)"},
		{"", []int{1, 2}, "(1, 2)"},
		{"f", nil, "f()"},
		{"f", []int{}, "f()"},
		{"f", []int{0}, "f(0)"},
		{"f", []int{-1}, "f(-1)"},
		{"print", []int{1, -2}, "print(1, -2)"},
		{"f", []int{0, 0, 0}, "f(0, 0, 0)"},
		{"f", []int{least, 0, greatest}, "f(-9223372036854775808, 0, 9223372036854775807)"},
		{"f", []int{9, 8, 7, 6, 5, 4, 3, 2, 1}, "f(9, 8, 7, 6, 5, 4, 3, 2, 1)"},
		{"a b, c(d)", []int{3}, "a b, c(d)(3)"},
		{`say "hi\n"`, []int{3}, `say "hi\n"(3)`},
		{"\x00\n\xff%s", nil, "\x00\n\xff%s()"},
		{"é", []int{4}, "é(4)"},
	} {
		same(t, Call(api.Call{Name: c.name, Args: c.args}), c.want)
	}
}

// TestCallNumbers: each number of a call, at each place.
func TestCallNumbers(t *testing.T) {
	for n, text := range numbers() {
		same(t, Call(api.Call{Name: "f", Args: []int{n}}), "f("+text+")")
		same(t, Call(api.Call{Name: "f", Args: []int{n, 1}}), "f("+text+", 1)")
		same(t, Call(api.Call{Name: "f", Args: []int{1, n}}), "f(1, "+text+")")
		same(t, Call(api.Call{Name: "f", Args: []int{1, n, n, 2}}), "f(1, "+text+", "+text+", 2)")
	}
}

// TestCallBytes: each byte of a call's name is told as it is, not as between quotes.
func TestCallBytes(t *testing.T) {
	for b := range 256 {
		one := string([]byte{byte(b)})
		same(t, Call(api.Call{Name: one}), one+"()")
		same(t, Call(api.Call{Name: "a" + one + "b", Args: []int{b}}), "a"+one+"b("+strconv.Itoa(b)+")")
	}
	long := strings.Repeat("n", 1000)
	same(t, Call(api.Call{Name: long}), long+"()")
}

// The model tells of pieces that are joined, and knows no writer.

// modelPlace is a place's name.
func modelPlace(l api.Loc) string {
	switch {
	case l.Kind == api.Slot:
		return fmt.Sprintf("#%d", l.N)
	case l.Kind == api.Preg && l.Class == api.ClassG:
		return fmt.Sprintf("$g%d", l.N)
	case l.Kind == api.Preg && l.Class == api.ClassX:
		return fmt.Sprintf("$x%d", l.N)
	}
	return ""
}

// modelTarget is a target's text.
func modelTarget(t api.Target) string {
	words := []string{fmt.Sprintf("target g %d x %d slots %d", t.Regs[0], t.Regs[1], t.Slots)}
	for class, letter := range []string{"g", "x"} {
		for _, n := range t.Clobber[class] {
			if len(words) == 1 {
				words = append(words, "clobber")
			}
			words = append(words, fmt.Sprintf("$%s%d", letter, n))
		}
	}
	return strings.Join(words, " ") + ";\n"
}

// modelSeg is a segment's text.
func modelSeg(s api.Seg) string {
	return fmt.Sprintf("%d..%d %s", s.From, s.To, modelPlace(s.At))
}

// modelAlloc is an allocation's text: each segment goes on in the last row, if that is of its virtual register.
func modelAlloc(a api.Alloc) string {
	var rows []string
	last := 0
	for _, s := range a.Segs {
		if len(rows) > 0 && s.V == last {
			rows[len(rows)-1] += ", " + modelSeg(s)
			continue
		}
		last = s.V
		rows = append(rows, fmt.Sprintf("  %%%d: ", s.V)+modelSeg(s))
	}
	text := fmt.Sprintf("alloc slots %d {\n", a.Slots)
	for _, row := range rows {
		text += row + ";\n"
	}
	return text + "}\n"
}

// modelCall is a call's text.
func modelCall(c api.Call) string {
	var args []string
	for _, n := range c.Args {
		args = append(args, fmt.Sprint(n))
	}
	return c.Name + "(" + strings.Join(args, ", ") + ")"
}

// TestTargetModel: at all short lists of spoilt registers, with several numbers of all else.
func TestTargetModel(t *testing.T) {
	lists := [][]int{nil}
	for a := range 4 {
		lists = append(lists, []int{a * 5})
		for b := range 4 {
			lists = append(lists, []int{a * 5, b * 7})
			for c := range 4 {
				lists = append(lists, []int{a, b, c})
			}
		}
	}
	for at, g := range lists {
		for to, x := range lists {
			m := machine(at-2, g, to-3, x, at*to-4)
			same(t, Target(m), modelTarget(m))
		}
	}
}

// TestSegModel: at places of all kinds and classes, and at all numbers.
func TestSegModel(t *testing.T) {
	for _, kind := range append(noPlaces(), api.Preg, api.Slot) {
		for _, class := range append(noClasses(), api.ClassG, api.ClassX) {
			for n := range numbers() {
				for from := range numbers() {
					s := seg(n, from, n, api.Loc{Kind: kind, Class: class, N: n})
					same(t, Seg(s), modelSeg(s))
				}
			}
		}
	}
}

// TestAllocModel: at all allocations of up to six segments, each of which is of one of three virtual registers.
func TestAllocModel(t *testing.T) {
	places := []api.Loc{reg(0, 3), slot(12), reg(1, 4), {}}
	for size := range 7 {
		for choice := range int(math.Pow(3, float64(size))) {
			a := api.Alloc{Slots: choice}
			for at := range size {
				a.Segs = append(a.Segs, seg(choice%3-1, at, at+choice%5, places[(at+choice)%4]))
				choice /= 3
			}
			same(t, Alloc(a), modelAlloc(a))
		}
	}
}

// TestCallModel: at all numbers of Args up to twenty.
func TestCallModel(t *testing.T) {
	c := api.Call{Name: "f"}
	for n := range 20 {
		same(t, Call(c), modelCall(c))
		c.Args = append(c.Args, n*n*n-500)
	}
}

// TestLong: what is beyond the language's limits is told, too, however long, in one row or in as many as segments.
func TestLong(t *testing.T) {
	var one, many api.Alloc
	var calls api.Call
	var m api.Target
	var oneText, manyText, args, spoilt strings.Builder
	for n := range 100_000 {
		one.Segs = append(one.Segs, seg(3, n, n+1, slot(n)))
		many.Segs = append(many.Segs, seg(n, 0, 1, slot(2)))
		calls.Args = append(calls.Args, n)
		m.Clobber[n%2] = append(m.Clobber[n%2], 7)
		fmt.Fprintf(&oneText, ", %d..%d #%d", n, n+1, n)
		fmt.Fprintf(&manyText, "  %%%d: 0..1 #2;\n", n)
		fmt.Fprintf(&args, ", %d", n)
	}
	spoilt.WriteString(strings.Repeat(" $g7", 50_000) + strings.Repeat(" $x7", 50_000))
	for _, c := range [][2]string{
		{Alloc(one), "alloc slots 0 {\n  %3: " + oneText.String()[2:] + ";\n}\n"},
		{Alloc(many), "alloc slots 0 {\n" + manyText.String() + "}\n"},
		{Call(calls), "(" + args.String()[2:] + ")"},
		{Target(m), "target g 0 x 0 slots 0 clobber" + spoilt.String() + ";\n"},
	} {
		if c[0] != c[1] {
			t.Errorf("a long text is told otherwise: %.60q, not %.60q", c[0], c[1])
		}
	}
}

// whole is a copy of a value that shares nothing with it, in which the lists are as long as they have room.
func whole(v reflect.Value) reflect.Value {
	out := reflect.New(v.Type()).Elem()
	switch v.Kind() {
	case reflect.Struct:
		for i := range v.NumField() {
			out.Field(i).Set(whole(v.Field(i)))
		}
	case reflect.Array:
		for i := range v.Len() {
			out.Index(i).Set(whole(v.Index(i)))
		}
	case reflect.Slice:
		v = v.Slice(0, v.Cap())
		out.Set(reflect.MakeSlice(v.Type(), v.Len(), v.Len()))
		for i := range v.Len() {
			out.Index(i).Set(whole(v.Index(i)))
		}
	default:
		out.Set(v)
	}
	return out
}

// asWas makes a question whether a value, and the rooms behind its lists' ends, are still as they were.
func asWas(t *testing.T, value any) func(what string) {
	was := whole(reflect.ValueOf(value)).Interface()
	return func(what string) {
		t.Helper()
		if !reflect.DeepEqual(whole(reflect.ValueOf(value)).Interface(), was) {
			t.Error("changed by", what)
		}
	}
}

// spacious is a unit, all lists of which have room behind their ends, in which there are other elements.
func spacious() api.Unit {
	f, _ := plain()
	other := api.Operand{Kind: api.Imm, N: 77}
	f.Params = roomy(other, f.Params...)
	f.Regs = roomy(api.Reg{ID: 78}, f.Regs...)
	block := &f.Blocks[0]
	block.In = roomy(other)
	for i := range block.Code {
		block.Code[i].Args = roomy(other, block.Code[i].Args...)
	}
	block.Code = roomy(api.Instr{Op: api.OpSub}, block.Code...)
	f.Blocks = roomy(api.Block{Label: "behind"}, f.Blocks...)
	return api.Unit{
		Target: machine(8, roomy(5, 0, 3), 4, roomy(6), 7),
		Func:   f,
		Has:    true,
		Alloc:  api.Alloc{Slots: 1, Segs: roomy(seg(2, 8, 9, slot(9)), seg(1, 0, 2, slot(0)), seg(2, 0, 4, reg(0, 1)))},
	}
}

// TestUntouched: nothing that was handed in is changed, nor what lies behind the lists' lengths, nor is that told (R3).
func TestUntouched(t *testing.T) {
	u := spacious()
	asIs := asWas(t, u)
	target := "target g 8 x 4 slots 7 clobber $g0 $g3;\n"
	alloc := "alloc slots 1 {\n  %1: 0..2 #0;\n  %2: 0..4 $g1;\n}\n"
	_, function := plain()
	same(t, Target(u.Target), target)
	asIs("Target")
	same(t, Alloc(u.Alloc), alloc)
	asIs("Alloc")
	same(t, Unit(u), target+function+alloc)
	asIs("Unit")
	same(t, Seg(u.Alloc.Segs[1]), "0..4 $g1")
	asIs("Seg")
	u.Has = false
	asIs = asWas(t, u)
	same(t, Unit(u), target+function)
	asIs("Unit of none")
	for _, args := range [][]int{roomy(9), roomy(9, 1), roomy(9, 1, -2)} {
		c := api.Call{Name: "f", Args: args}
		asIs := asWas(t, c)
		same(t, Call(c), modelCall(api.Call{Name: "f", Args: slices.Clip(args)}))
		asIs("Call")
	}
}

// TestRooms: of lists with room behind their ends just what they have is told, wherever they end.
func TestRooms(t *testing.T) {
	numbers := []int{3, 3, 1, 2}
	segs := []api.Seg{seg(1, 0, 1, slot(0)), seg(1, 1, 2, slot(1)), seg(2, 0, 1, slot(2)), seg(2, 1, 2, slot(3)), seg(1, 2, 3, slot(4))}
	for has := range len(numbers) + 1 {
		c := api.Call{Name: "f", Args: numbers[:has]}
		same(t, Call(c), modelCall(c))
		for other := range len(numbers) + 1 {
			m := machine(1, numbers[:has], 2, numbers[:other], 3)
			same(t, Target(m), modelTarget(m))
		}
	}
	for from := range len(segs) + 1 {
		for to := from; to <= len(segs); to++ {
			a := api.Alloc{Segs: segs[from:to]}
			same(t, Alloc(a), modelAlloc(a))
		}
	}
}

// TestNotKept: what is told is not kept for the next time: what was changed meanwhile is seen, and no text changes.
func TestNotKept(t *testing.T) {
	u := spacious()
	first := Unit(u)
	was := strings.Clone(first)
	u.Target.Clobber[0][1] = 4
	u.Func.Blocks[0].Code[0].Args[1].N = 2
	u.Alloc.Segs[0].V = 2
	_, function := plain()
	same(t, Unit(u), "target g 8 x 4 slots 7 clobber $g0 $g4;\n"+strings.Replace(function, "%0, 1", "%0, 2", 1)+"alloc slots 1 {\n  %2: 0..2 #0, 0..4 $g1;\n}\n")
	same(t, first, was)
	c := api.Call{Name: "f", Args: []int{1, 2}}
	same(t, Call(c), "f(1, 2)")
	c.Args[0] = 3
	same(t, Call(c), "f(3, 2)")
}

// TestAlone: texts that are made at the same time do not get into each other.
func TestAlone(t *testing.T) {
	want := Unit(spacious())
	var all sync.WaitGroup
	for n := range 8 {
		all.Go(func() {
			for range 200 {
				if Unit(spacious()) != want || Call(api.Call{Args: []int{n}}) != "("+strconv.Itoa(n)+")" {
					t.Error("told otherwise at the same time")
					return
				}
			}
		})
	}
	all.Wait()
}
