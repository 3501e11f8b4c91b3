package canon

import (
	"fmt"
	"math"
	"reflect"
	"slices"
	"strings"
	"testing"

	"dyehouse/api"
	"dyehouse/ir"
	"dyehouse/note"
	"dyehouse/parse"
	"dyehouse/show"
	"dyehouse/unit"
)

const (
	least    = math.MinInt64
	greatest = math.MaxInt64
)

func vreg(n int) api.Operand { return api.Operand{Kind: api.Vreg, N: n} }
func imm(n int) api.Operand  { return api.Operand{Kind: api.Imm, N: n} }
func slot(n, tag int) api.Operand {
	return api.Operand{Kind: api.Slot, N: n, Tag: tag}
}
func preg(class, n, tag int) api.Operand {
	return api.Operand{Kind: api.Preg, Class: class, N: n, Tag: tag}
}

// roomy is a list with memory behind its length, in which there are other elements.
func roomy[T any](behind T, list ...T) []T {
	all := append(slices.Clone(list), behind, behind, behind)
	return all[:len(list)]
}

// ids are numbers that are IDs, and noIDs are such as are none.
func ids() []int   { return []int{0, 1, 7, api.MaxID - 1, api.MaxID} }
func noIDs() []int { return []int{-1, api.MaxID + 1, 1 << 32, 1<<32 + 1, -1 << 31, least, greatest} }

// noClasses are numbers of which there is no class.
func noClasses() []int { return []int{-1, 2, 3, 1 << 32, 1<<32 + 1, least, greatest} }

// plain are operands that are plain: all kinds, with the least and the greatest of what they may have.
func plain() []api.Operand {
	list := []api.Operand{{}}
	for _, n := range ids() {
		list = append(list, vreg(n))
		for _, tag := range []int{0, 1, api.MaxID} {
			list = append(list, preg(0, n, tag), preg(1, n, tag), slot(n, tag))
		}
	}
	for _, n := range append(ids(), noIDs()...) {
		list = append(list, imm(n))
	}
	return list
}

// notPlain are operands that are not plain, each for one reason.
func notPlain() []api.Operand {
	var list []api.Operand
	for _, n := range append(noIDs(), 1) {
		list = append(list, api.Operand{N: n}, api.Operand{Class: n}, api.Operand{Tag: n})
		list = append(list, api.Operand{Kind: api.Vreg, N: 5, Class: n}, api.Operand{Kind: api.Vreg, N: 5, Tag: n})
		list = append(list, api.Operand{Kind: api.Imm, N: 5, Class: n}, api.Operand{Kind: api.Imm, N: 5, Tag: n})
		list = append(list, api.Operand{Kind: api.Slot, Class: n, N: 2, Tag: 3})
	}
	for _, n := range noIDs() {
		list = append(list, vreg(n), preg(0, n, 3), preg(1, n, 3), preg(0, 3, n), preg(1, 3, n), slot(n, 3), slot(3, n))
	}
	for _, class := range noClasses() {
		list = append(list, preg(class, 2, 3), preg(class, 0, 0))
	}
	for _, kind := range []int{-1, 5, 6, 8, 1 << 32, 1<<32 + 1, least, greatest} {
		list = append(list, api.Operand{Kind: kind}, api.Operand{Kind: kind, N: 2}, api.Operand{Kind: kind, Class: 1, N: 2, Tag: 3})
	}
	return list
}

// shape is an operation, from how many places it takes (-1: any number), and how many labels it has without cases.
type shape struct {
	op     int
	name   string
	args   int
	labels int
}

// shapes are all operations, by hand.
func shapes() []shape {
	return []shape{
		{1, "add", 2, 0}, {2, "sub", 2, 0}, {3, "mul", 2, 0}, {4, "and", 2, 0}, {5, "or", 2, 0}, {6, "xor", 2, 0}, {7, "shl", 2, 0},
		{8, "shr", 2, 0}, {9, "sar", 2, 0}, {10, "div", 2, 0}, {11, "rem", 2, 0}, {12, "eq", 2, 0}, {13, "ne", 2, 0}, {14, "lt", 2, 0},
		{15, "le", 2, 0}, {16, "copy", 1, 0}, {17, "load", 1, 0}, {18, "store", 2, 0}, {19, "call", -1, 0}, {20, "br", 0, 1},
		{21, "brif", 1, 2}, {22, "switch", 1, 1}, {23, "ret", 1, 0}, {24, "move", 1, 0}, {25, "spill", 1, 0}, {26, "reload", 1, 0}, {27, "swap", 2, 0},
	}
}

// right is an instruction as it should be, with as many arguments as there may be, or three.
func (s shape) right() api.Instr {
	i := api.Instr{Op: s.op}
	many := s.args
	if many < 0 {
		many = 3
	}
	for at := range many {
		i.Args = append(i.Args, vreg(at+1))
	}
	for at := range s.labels {
		i.Labels = append(i.Labels, string(rune('b'+at)))
	}
	return i
}

// rights are an instruction of each operation as it should be.
func rights() []api.Instr {
	var list []api.Instr
	for _, s := range shapes() {
		list = append(list, s.right())
	}
	return list
}

// words are words that the text has elsewhere, too.
func words() []string {
	list := []string{"func", "machine", "edge", "regs", "else", "x", "g", "target", "alloc", "slots", "clobber"}
	for _, s := range shapes() {
		list = append(list, s.name)
	}
	return list
}

// long is a name of many bytes.
func long(many int) string { return strings.Repeat("z", many) }

// names are names, by hand, and the words that the text has elsewhere.
func names() []string {
	return append(words(), "a", "b", "z", "_", "__", "_0", "a0", "a_b", "a9z", "f", long(24), "_"+strings.Repeat("9", 23))
}

// edges are edges' names.
func edges() []string {
	list := []string{"a.b", "a.a", "_._", "_0.z9", long(24) + ".b", "a." + long(24), long(24) + "." + long(24)}
	for _, word := range words() {
		list = append(list, word+".b", "a."+word, word+"."+word)
	}
	return list
}

// noLabels are texts that are neither names nor edges' names.
func noLabels() []string {
	list := []string{
		"", " ", "  ", "a ", " a", "a b", "a\n", "\ta", "A", "aB", "Z", "0", "0a", "9", "a-b", "-a", "a:", ":a", "a;", "a,", "a, b", "a]", "[a", "a//", "a // b",
		"%0", "$g0", "#0", `"a"`, "a\"", "\x00", "a\x00", "\xff", "a\xff", "\u00e9", "a\u00e9", "?", "a?", "a=b", "a+b", "a*b", "{", "a}", "(a)", "a@", "a`", "a{", "a/b", "a^", "1.5",
		".", "..", "a.", ".b", "a..b", "a.b.c", ".a.b", "a.b.", "a .b", "a. b", " a.b", "a.b ", "a.B", "A.b", "a.0", "0.a", "a.b:", "a,b.c", "a:b", "a.b;",
		long(25), long(25) + ".b", "a." + long(25), long(25) + "." + long(25), long(24) + "." + long(25), long(49),
		"edge a", "edge a.b", "regs %0:g", "a; ret 0", "a;\n  ret 0", "a; } //", "a]; ret 0", "a: ret 0; b", "a: b", "else: a", "a, else: a", "a, 1: a", "a [%0]", "g() { } //",
	}
	for c := range 256 {
		if sign := byte(c); sign != '_' && (sign < 'a' || sign > 'z') && (sign < '0' || sign > '9') {
			list = append(list, string([]byte{'a', sign, 'b', 'c'}[:3]), string([]byte{sign}), string([]byte{sign, 'a'}), string([]byte{'a', sign}))
		}
	}
	return slices.DeleteFunc(list, func(text string) bool { return text == "a.b" })
}

// twin is the same value, and the same behind the lists' lengths, all in memory of its own.
func twin[T any](value T) T {
	return twinOf(reflect.ValueOf(value)).Interface().(T)
}

func twinOf(v reflect.Value) reflect.Value {
	mine := reflect.New(v.Type()).Elem()
	switch v.Kind() {
	case reflect.Struct:
		for k := range v.NumField() {
			mine.Field(k).Set(twinOf(v.Field(k)))
		}
	case reflect.Array:
		for k := range v.Len() {
			mine.Index(k).Set(twinOf(v.Index(k)))
		}
	case reflect.Slice:
		if v.IsNil() {
			return mine
		}
		all := v.Slice3(0, v.Cap(), v.Cap())
		mine.Set(reflect.MakeSlice(v.Type(), v.Cap(), v.Cap()))
		for k := range all.Len() {
			mine.Index(k).Set(twinOf(all.Index(k)))
		}
		return mine.Slice(0, v.Len())
	default:
		mine.Set(v)
	}
	return mine
}

// shown is a value, as a test's message has it.
func shown(value any) string {
	return fmt.Sprintf("%.1000s", fmt.Sprintf("%#v", value))
}

// alone is a function that has an instruction as the only one of a block.
func alone(i api.Instr) api.Func {
	return api.Func{Name: "f", Blocks: []api.Block{{Label: "a", Code: []api.Instr{i}}}}
}

// funcBack tells whether a function is read of its text as it was.
func funcBack(f api.Func) bool {
	got, err := parse.Text(show.Func(f))
	return err == nil && ir.Same(got, f)
}

// instrBack tells whether an instruction is read of its text as it was.
func instrBack(i api.Instr) bool {
	return funcBack(alone(i))
}

// unitBack tells whether a unit is read of its text as it was.
func unitBack(u api.Unit) bool {
	got, err := unit.Text(note.Unit(u))
	return err == nil && ir.SameUnit(got, u)
}

// holds: of a value it is told what is wanted, it is not changed, and it is read of its text as it was just if it is so.
func holds[T any](t *testing.T, value T, want bool, ask, back func(T) bool) {
	t.Helper()
	kept := twin(value)
	if got := ask(value); got != want {
		t.Fatalf("%t of %s", got, shown(value))
	}
	if !sameBehind(reflect.ValueOf(kept), reflect.ValueOf(value)) {
		t.Fatalf("what was handed in is changed: %s was %s", shown(value), shown(kept))
	}
	if got := back(value); got != want {
		t.Fatalf("read as it was: %t; wanted %t, of %s", got, want, shown(value))
	}
}

// sameBehind tells whether two values are the same, also behind their lists' lengths.
func sameBehind(a, b reflect.Value) bool {
	switch a.Kind() {
	case reflect.Struct:
		for k := range a.NumField() {
			if !sameBehind(a.Field(k), b.Field(k)) {
				return false
			}
		}
		return true
	case reflect.Slice:
		if a.Len() != b.Len() || a.Cap() != b.Cap() || a.IsNil() != b.IsNil() {
			return false
		}
		a, b = a.Slice(0, a.Cap()), b.Slice(0, b.Cap())
		fallthrough
	case reflect.Array:
		for k := range a.Len() {
			if !sameBehind(a.Index(k), b.Index(k)) {
				return false
			}
		}
		return true
	}
	return a.Equal(b)
}

func wantInstr(t *testing.T, want bool, i api.Instr) {
	t.Helper()
	holds(t, i, want, Instr, instrBack)
}

func wantFunc(t *testing.T, want bool, f api.Func) {
	t.Helper()
	holds(t, f, want, Func, funcBack)
}

func wantUnit(t *testing.T, want bool, u api.Unit) {
	t.Helper()
	holds(t, u, want, Unit, unitBack)
}

// wantCode: so is the instruction, and each function that has it, at each place of its code.
func wantCode(t *testing.T, want bool, i api.Instr) {
	t.Helper()
	wantInstr(t, want, i)
	wantFunc(t, want, alone(i))
}

// TestExample: the chapter's example, and what of it is one.
func TestExample(t *testing.T) {
	f := api.Func{Name: "f", Blocks: []api.Block{{Label: "a.b"}}}
	wantFunc(t, false, f)
	f.Blocks[0].Edge = true
	wantFunc(t, true, f)
}

// TestInstrOperations: each operation, as it should be, is so, and of no other number is anything.
func TestInstrOperations(t *testing.T) {
	if many := len(shapes()); many != api.Ops {
		t.Fatalf("there are %d operations", many)
	}
	for _, i := range rights() {
		wantCode(t, true, i)
		i.Dst = vreg(9)
		wantCode(t, true, i)
		for _, op := range []int{0, -1, 28, 29, 100, -27, 256 + i.Op, 1<<32 + i.Op, -i.Op, least, least + i.Op, greatest} {
			other := twin(i)
			other.Op = op
			wantCode(t, false, other)
		}
	}
	for _, op := range []int{0, -1, 28, least, greatest} {
		wantInstr(t, false, api.Instr{Op: op})
		wantInstr(t, false, api.Instr{Op: op, Labels: []string{"a"}})
	}
	wantInstr(t, false, api.Instr{})
}

// TestInstrByHand: instructions whose fields are written out, of all that there is in them.
func TestInstrByHand(t *testing.T) {
	for _, i := range []api.Instr{
		{Op: api.OpAdd, Dst: vreg(0), Args: []api.Operand{vreg(1), imm(-3)}},
		{Op: api.OpAdd, Args: []api.Operand{{}, {}}},
		{Op: api.OpCopy, Dst: preg(1, 2, 3), Args: []api.Operand{slot(4, 5)}},
		{Op: api.OpLoad, Dst: vreg(2), Args: []api.Operand{vreg(1)}, Off: -8},
		{Op: api.OpLoad, Args: []api.Operand{imm(3)}, Off: least},
		{Op: api.OpStore, Dst: slot(1, 1), Args: []api.Operand{vreg(2), {}}, Off: greatest},
		{Op: api.OpCall},
		{Op: api.OpCall, Dst: preg(0, 0, 0), Args: []api.Operand{vreg(1), {}, imm(4)}, Name: "a\n\"\\\x00\xff"},
		{Op: api.OpBr, Labels: []string{"a.b"}},
		{Op: api.OpBr, Labels: []string{"_"}},
		{Op: api.OpBrif, Args: []api.Operand{{}}, Labels: []string{"_", "_._"}},
		{Op: api.OpSwitch, Args: []api.Operand{vreg(1)}, Cases: []int{1, 1, least}, Labels: []string{"else", "a.else", "b", "else"}},
		{Op: api.OpSwitch, Args: []api.Operand{vreg(1)}, Labels: []string{"b"}},
		{Op: api.OpRet, Args: []api.Operand{{}}},
		{Op: api.OpSwap, Args: []api.Operand{slot(1, 2), preg(0, 3, 4)}},
	} {
		wantCode(t, true, i)
	}
}

// TestInstrDst: of each operation Dst may be any operand that is plain, and no number.
func TestInstrDst(t *testing.T) {
	for _, i := range rights() {
		for _, o := range plain() {
			i.Dst = o
			wantInstr(t, o.Kind != api.Imm, i)
		}
		for _, o := range notPlain() {
			i.Dst = o
			wantInstr(t, false, i)
		}
	}
}

// filled is an instruction of an operation with so many arguments.
func filled(s shape, many int) api.Instr {
	i := s.right()
	i.Args = nil
	for range many {
		i.Args = append(i.Args, vreg(5))
	}
	return i
}

// TestInstrArgs: each operation has just as many arguments as it takes from, and call any number.
func TestInstrArgs(t *testing.T) {
	for _, s := range shapes() {
		for _, many := range []int{0, 1, 2, 3, 4, 7, 8, 9, 16, 100} {
			i := filled(s, many)
			wantCode(t, many == s.args || s.args < 0, i)
			for at := range i.Args {
				i.Args[at] = api.Operand{}
			}
			wantInstr(t, many == s.args || s.args < 0, i)
		}
	}
}

// TestInstrArgsPlain: each argument may be any operand that is plain, a number of any N among them, and no other.
func TestInstrArgsPlain(t *testing.T) {
	for _, s := range shapes() {
		many := s.args
		if many < 0 {
			many = 5
		}
		for at := range many {
			i := filled(s, many)
			for _, o := range plain() {
				i.Args[at] = o
				wantInstr(t, true, i)
			}
			for _, o := range notPlain() {
				i.Args[at] = o
				wantInstr(t, false, i)
			}
		}
	}
}

// TestInstrArgsOfCall: one argument that is not plain is enough, at each place of many, and one alone.
func TestInstrArgsOfCall(t *testing.T) {
	call := shapes()[api.OpCall-1]
	for _, many := range []int{1, 2, 9, 40} {
		for at := range many {
			for _, o := range []api.Operand{vreg(-1), {N: 1}, slot(1, api.MaxID+1), {Kind: api.Imm, Tag: 1}, {Kind: 5}} {
				i := filled(call, many)
				wantInstr(t, true, i)
				i.Args[at] = o
				wantCode(t, false, i)
			}
		}
	}
}

// TestInstrLabels: each operation has just as many labels as the table says.
func TestInstrLabels(t *testing.T) {
	for _, s := range shapes() {
		for many := range 6 {
			i := s.right()
			i.Labels = nil
			for range many {
				i.Labels = append(i.Labels, "b")
			}
			wantCode(t, many == s.labels, i)
			for at := range i.Labels {
				i.Labels[at] = "_"
			}
			wantInstr(t, many == s.labels, i)
		}
	}
}

// TestInstrLabelsInsteadOfArgs: what is told as a label is none if it was an argument, nor the other way round.
func TestInstrLabelsInsteadOfArgs(t *testing.T) {
	for _, i := range []api.Instr{
		{Op: api.OpBr, Args: []api.Operand{{}}},
		{Op: api.OpBrif, Labels: []string{"_", "a", "b"}},
		{Op: api.OpBrif, Args: []api.Operand{{}, {}}, Labels: []string{"b"}},
		{Op: api.OpBrif, Args: []api.Operand{{}, {}, {}}},
		{Op: api.OpRet, Labels: []string{"_"}},
		{Op: api.OpRet, Args: []api.Operand{{}}, Labels: []string{"_"}},
	} {
		wantCode(t, false, i)
	}
}

// labelled are instructions with labels, one at least, of each operation that has any.
func labelled() []api.Instr {
	return []api.Instr{
		{Op: api.OpBr, Labels: []string{"b"}},
		{Op: api.OpBrif, Args: []api.Operand{vreg(1)}, Labels: []string{"b", "c"}},
		{Op: api.OpSwitch, Args: []api.Operand{vreg(1)}, Labels: []string{"b"}},
		{Op: api.OpSwitch, Args: []api.Operand{vreg(1)}, Cases: []int{7, 8}, Labels: []string{"b", "c", "d"}},
	}
}

// TestInstrLabelTexts: each label is a name, or an edge's, and nothing else, at each place.
func TestInstrLabelTexts(t *testing.T) {
	for _, i := range labelled() {
		for at := range i.Labels {
			changed := twin(i)
			for _, label := range append(names(), edges()...) {
				changed.Labels[at] = label
				wantInstr(t, true, changed)
			}
			for _, label := range noLabels() {
				changed.Labels[at] = label
				wantInstr(t, false, changed)
			}
		}
	}
}

// TestInstrSwitch: a switch has one label more than cases, and its cases may be any numbers, also twice, or none.
func TestInstrSwitch(t *testing.T) {
	numbers := []int{0, 1, -1, least, greatest, 0, 0, 5, -7, least, 2, 3, 4, 6, 8, 9, 10, 11}
	for cases := range len(numbers) + 1 {
		for labels := range len(numbers) + 3 {
			i := api.Instr{Op: api.OpSwitch, Args: []api.Operand{vreg(1)}, Cases: numbers[:cases:cases]}
			for at := range labels {
				i.Labels = append(i.Labels, []string{"b", "else", "c.d"}[at%3])
			}
			wantCode(t, labels == cases+1, i)
		}
	}
}

// TestInstrSwitchMany: so it is beyond all limits of what a function should have.
func TestInstrSwitchMany(t *testing.T) {
	for _, cases := range []int{api.MaxCases, api.MaxCases + 1, 100, api.MaxCode, api.MaxCode + 1, api.MaxCode + 2, 10_000} {
		for _, more := range []int{-1, 0, 1, 2} {
			i := api.Instr{Op: api.OpSwitch, Args: []api.Operand{vreg(1)}, Cases: make([]int, cases)}
			i.Labels = slices.Repeat([]string{"b"}, cases+more)
			wantCode(t, more == 1, i)
		}
	}
}

// TestInstrCases: no other operation has cases, whatever they are, and however many labels there are.
func TestInstrCases(t *testing.T) {
	for _, s := range shapes() {
		if s.op == api.OpSwitch {
			continue
		}
		for _, cases := range [][]int{{0}, {1}, {-1}, {1, 2}, {3, 3, 3}} {
			i := s.right()
			i.Cases = cases
			wantCode(t, false, i)
			for range cases {
				i.Labels = append(i.Labels, "e")
			}
			wantCode(t, false, i)
		}
		i := s.right()
		i.Cases = []int{}
		wantCode(t, true, i)
	}
}

// TestInstrName: a call may have any name of at most 64 bytes.
func TestInstrName(t *testing.T) {
	texts := map[string]bool{
		"": true, "a": true, "print": true, " ": true, "a b": true, "func": true, `"`: true, `\`: true, `\x41`: true, `"quoted"`: true, "\n": true, "\t": true, "\r\n": true, "//": true,
		"\x00": true, "\u00e9": true, "\xff\xfe": true, ")": true, `"(); ret 0; //`: true,
		strings.Repeat("n", 63): true, strings.Repeat("n", 64): true, strings.Repeat("n", 65): false, strings.Repeat("n", 66): false,
		strings.Repeat("\x00", 64): true, strings.Repeat("\x00", 65): false, strings.Repeat(`"`, 64): true, strings.Repeat(`"`, 65): false, strings.Repeat("\n", 64): true,
		strings.Repeat("\u00e9", 32): true, strings.Repeat("\u00e9", 33): false, strings.Repeat("\u00e9", 64): false, strings.Repeat("\u20ac", 21): true, strings.Repeat("\u20ac", 22): false,
	}
	for c := range 256 {
		texts[string([]byte{byte(c)})] = true
		texts[strings.Repeat(string([]byte{byte(c)}), 64)] = true
		texts[strings.Repeat(string([]byte{byte(c)}), 65)] = false
	}
	for text, want := range texts {
		for _, many := range []int{0, 1, 4} {
			i := filled(shapes()[api.OpCall-1], many)
			i.Name = text
			wantCode(t, want, i)
		}
	}
}

// TestInstrNameOfOthers: no other operation has a name.
func TestInstrNameOfOthers(t *testing.T) {
	for _, i := range rights() {
		if i.Op == api.OpCall {
			continue
		}
		for _, text := range []string{"a", "_", " ", "\x00", "print", strings.Repeat("n", 64), strings.Repeat("n", 65)} {
			i.Name = text
			wantCode(t, false, i)
		}
	}
}

// TestInstrOff: of load and store Off may be any number, of all others just 0.
func TestInstrOff(t *testing.T) {
	for _, i := range rights() {
		for _, off := range []int{1, -1, 8, -8, api.MaxID, api.MaxID + 1, 1 << 32, least, least + 1, greatest} {
			i.Off = off
			wantCode(t, i.Op == api.OpLoad || i.Op == api.OpStore, i)
		}
	}
	for _, o := range plain() {
		wantInstr(t, true, api.Instr{Op: api.OpLoad, Args: []api.Operand{o}, Off: -5})
		wantInstr(t, true, api.Instr{Op: api.OpStore, Args: []api.Operand{vreg(1), o}, Off: 5})
	}
}

// TestInstrLong: of an instruction it isn't asked how long its text is, of its function it is.
func TestInstrLong(t *testing.T) {
	i := filled(shapes()[api.OpCall-1], 40_000)
	if !Instr(i) {
		t.Error("a call of very many arguments is not so")
	}
	wantFunc(t, false, alone(i))
	i.Args[39_999] = vreg(-1)
	wantCode(t, false, i)
}

// TestInstrLists: a list that is nil is as one without elements.
func TestInstrLists(t *testing.T) {
	for _, i := range append(rights(), api.Instr{Op: api.OpCall}) {
		if len(i.Args) == 0 {
			i.Args = []api.Operand{}
		}
		if len(i.Labels) == 0 {
			i.Labels = []string{}
		}
		i.Cases = []int{}
		wantCode(t, true, i)
	}
}

// forms are functions of both forms: without anything, with a block, and with all that there is.
func forms() []api.Func {
	var list []api.Func
	for _, machine := range []bool{false, true} {
		list = append(list, api.Func{Machine: machine, Name: "f"}, api.Func{Machine: machine, Name: "f", Blocks: []api.Block{{Label: "a"}}}, api.Func{
			Machine: machine,
			Name:    "f",
			Regs:    []api.Reg{{ID: 0}, {ID: 1, Class: 1}, {ID: 2}},
			Params:  []api.Operand{vreg(0), preg(1, 2, 1), slot(3, 2)},
			Blocks: []api.Block{
				{Label: "a", Code: rights()[:3]},
				{Label: "a.b", Edge: true, In: []api.Operand{preg(0, 1, 2), slot(0, 1), {}}, Code: rights()[3:]},
				{Label: "b", In: []api.Operand{vreg(0)}},
			},
		})
	}
	return list
}

// TestFunc: functions of both forms are so.
func TestFunc(t *testing.T) {
	for _, f := range forms() {
		wantFunc(t, true, f)
	}
	wantFunc(t, false, api.Func{})
	wantFunc(t, false, api.Func{Machine: true})
}

// TestFuncName: a function's name is a name.
func TestFuncName(t *testing.T) {
	for _, f := range forms() {
		for _, text := range names() {
			f.Name = text
			wantFunc(t, true, f)
		}
		for _, text := range append(noLabels(), edges()...) {
			f.Name = text
			wantFunc(t, false, f)
		}
	}
}

// TestFuncParams: parameters are plain, at each place, however many.
func TestFuncParams(t *testing.T) {
	for _, f := range forms() {
		for _, many := range []int{1, 2, 3, 9} {
			f.Params = slices.Repeat([]api.Operand{vreg(3)}, many)
			for at := range many {
				for _, o := range plain() {
					f.Params[at] = o
					wantFunc(t, true, f)
				}
				for _, o := range notPlain() {
					f.Params[at] = o
					wantFunc(t, false, f)
				}
				f.Params[at] = vreg(3)
			}
		}
	}
}

// TestFuncRegs: virtual registers have an ID, and a class that there is, at each place; also one of them twice.
func TestFuncRegs(t *testing.T) {
	classes := append(noClasses(), 0, 1)
	for _, f := range forms() {
		f.Regs = nil
		wantFunc(t, true, f)
		for _, many := range []int{1, 2, 3} {
			f.Regs = slices.Repeat([]api.Reg{{ID: 4, Class: 1}}, many)
			wantFunc(t, true, f)
			for at := range many {
				for _, class := range classes {
					for _, id := range append(ids(), noIDs()...) {
						f.Regs[at] = api.Reg{ID: id, Class: class}
						wantFunc(t, slices.Contains(ids(), id) && (class == 0 || class == 1), f)
					}
				}
				f.Regs[at] = api.Reg{ID: 4}
			}
		}
	}
}

// TestFuncLabels: a block's label is a name, or, if it is one's, an edge's, at each place; also one of them twice.
func TestFuncLabels(t *testing.T) {
	for _, f := range []api.Func{{Name: "f"}, {Machine: true, Name: "f", Regs: []api.Reg{{ID: 1}}}} {
		for _, many := range []int{1, 3} {
			f.Blocks = slices.Repeat([]api.Block{{Label: "b", Code: rights()[18:20]}}, many)
			wantFunc(t, true, f)
			for at := range many {
				b := &f.Blocks[at]
				for _, in := range [][]api.Operand{nil, {vreg(1)}} {
					for _, edge := range []bool{false, true} {
						b.Edge, b.In = edge, in
						for _, label := range names() {
							b.Label = label
							wantFunc(t, !edge, f)
						}
						for _, label := range edges() {
							b.Label = label
							wantFunc(t, edge, f)
						}
						for _, label := range noLabels() {
							b.Label = label
							wantFunc(t, false, f)
						}
					}
				}
				*b = api.Block{Label: "b", Code: rights()[:1]}
			}
		}
	}
}

// TestVeryLongNames: no name is as long as that.
func TestVeryLongNames(t *testing.T) {
	for _, many := range []int{100, 60_000, 1 << 20} {
		for _, text := range []string{long(many), "a." + long(many), long(many) + ".b", long(many) + "." + long(many)} {
			wantFunc(t, false, api.Func{Name: text})
			wantFunc(t, false, api.Func{Name: "f", Blocks: []api.Block{{Label: text}}})
			wantFunc(t, false, api.Func{Name: "f", Blocks: []api.Block{{Label: text, Edge: true}}})
			wantInstr(t, false, api.Instr{Op: api.OpBr, Labels: []string{text}})
			wantInstr(t, false, api.Instr{Op: api.OpCall, Name: text})
		}
	}
}

// TestFuncIn: what is where at a block's beginning is plain, at each place, however much it is.
func TestFuncIn(t *testing.T) {
	for _, machine := range []bool{false, true} {
		f := api.Func{Machine: machine, Name: "f"}
		f.Blocks = []api.Block{{Label: "a", Code: rights()[:1]}, {Label: "a.b", Edge: true}, {Label: "c"}}
		for place := range f.Blocks {
			for _, many := range []int{1, 2, 3} {
				in := slices.Repeat([]api.Operand{preg(0, 1, 2)}, many)
				f.Blocks[place].In = in
				for at := range many {
					for _, o := range plain() {
						in[at] = o
						wantFunc(t, true, f)
					}
					for _, o := range notPlain() {
						in[at] = o
						wantFunc(t, false, f)
					}
					in[at] = slot(1, 2)
				}
			}
			f.Blocks[place].In = nil
			wantFunc(t, true, f)
		}
	}
}

// wrongs are instructions that are not so, each for another reason.
func wrongs() []api.Instr {
	return []api.Instr{
		{}, {Op: 28}, {Op: api.OpAdd}, {Op: api.OpAdd, Args: []api.Operand{vreg(1)}},
		{Op: api.OpAdd, Dst: imm(1), Args: []api.Operand{vreg(1), vreg(2)}},
		{Op: api.OpAdd, Dst: vreg(-1), Args: []api.Operand{vreg(1), vreg(2)}},
		{Op: api.OpAdd, Dst: vreg(1), Args: []api.Operand{vreg(1), vreg(-2)}},
		{Op: api.OpBr}, {Op: api.OpBr, Labels: []string{"B"}}, {Op: api.OpBr, Labels: []string{"a", "b"}},
		{Op: api.OpSwitch, Args: []api.Operand{vreg(1)}, Cases: []int{1}, Labels: []string{"a"}},
		{Op: api.OpRet, Args: []api.Operand{vreg(1)}, Off: 1}, {Op: api.OpRet, Args: []api.Operand{vreg(1)}, Name: "n"},
		{Op: api.OpRet, Args: []api.Operand{vreg(1)}, Cases: []int{1}}, {Op: api.OpCall, Name: strings.Repeat("n", 65)},
	}
}

// TestFuncCode: one instruction that is not so is enough, at each place.
func TestFuncCode(t *testing.T) {
	for _, f := range forms() {
		f.Blocks = append(f.Blocks, api.Block{Label: "z", Code: slices.Clone(rights())})
		for place := range f.Blocks {
			for at := range f.Blocks[place].Code {
				for _, wrong := range wrongs() {
					changed := twin(f)
					changed.Blocks[place].Code[at] = wrong
					wantFunc(t, false, changed)
				}
			}
			for _, wrong := range wrongs() {
				changed := twin(f)
				changed.Blocks[place].Code = append(changed.Blocks[place].Code, wrong)
				wantFunc(t, false, changed)
			}
		}
	}
}

// TestFuncLists: a list that is nil is as one without elements, and what is behind a list's length isn't asked for.
func TestFuncLists(t *testing.T) {
	for _, f := range forms() {
		if len(f.Blocks) == 0 {
			f.Blocks = []api.Block{}
		}
		f.Params, f.Regs = []api.Operand{}, []api.Reg{}
		for at := range f.Blocks {
			f.Blocks[at].In, f.Blocks[at].Code = []api.Operand{}, []api.Instr{}
		}
		wantFunc(t, true, f)
	}
	i := api.Instr{
		Op: api.OpSwitch, Args: roomy(vreg(-1), vreg(1)), Cases: roomy(99, 1, 2), Labels: roomy("?", "a", "b", "c"),
	}
	wantInstr(t, true, i)
	f := api.Func{
		Name: "f", Params: roomy(vreg(-1), vreg(1)), Regs: roomy(api.Reg{ID: -1}, api.Reg{ID: 1}),
		Blocks: roomy(api.Block{}, api.Block{Label: "a", In: roomy(vreg(-1), vreg(1)), Code: roomy(api.Instr{}, i)}),
	}
	wantFunc(t, true, f)
	wantUnit(t, true, api.Unit{
		Target: api.Target{Clobber: [2][]int{roomy(-1, 1), roomy(-1, 2)}}, Func: f, Has: true, Alloc: api.Alloc{Segs: roomy(api.Seg{}, api.Seg{At: api.Loc{Kind: api.Slot}})},
	})
	wantUnit(t, true, api.Unit{Func: f, Alloc: api.Alloc{Segs: roomy(api.Seg{V: 1})}})
}

// grown is a function with so many of something, each of which has at most 24 bytes of the text.
type grown func(many int) api.Func

// growing are functions that grow in each of their lists.
func growing() map[string]grown {
	block := func(b api.Block) api.Func { return api.Func{Name: "f", Blocks: []api.Block{b}} }
	return map[string]grown{
		"params": func(many int) api.Func {
			return api.Func{Name: "f", Params: make([]api.Operand, many)}
		},
		"regs": func(many int) api.Func {
			return api.Func{Name: "f", Regs: slices.Repeat([]api.Reg{{ID: 12, Class: 1}}, many)}
		},
		"blocks": func(many int) api.Func {
			return api.Func{Machine: true, Name: "f", Blocks: slices.Repeat([]api.Block{{Label: "a"}}, many)}
		},
		"edges": func(many int) api.Func {
			return api.Func{Name: "f", Blocks: slices.Repeat([]api.Block{{Label: "a.b", Edge: true}}, many)}
		},
		"in": func(many int) api.Func { return block(api.Block{Label: "a", In: make([]api.Operand, many)}) },
		"code": func(many int) api.Func {
			return block(api.Block{Label: "a", Code: slices.Repeat([]api.Instr{{Op: api.OpRet, Args: []api.Operand{imm(-1)}}}, many)})
		},
		"args": func(many int) api.Func {
			return alone(api.Instr{Op: api.OpCall, Args: make([]api.Operand, many)})
		},
		"cases": func(many int) api.Func {
			return alone(api.Instr{Op: api.OpSwitch, Args: []api.Operand{vreg(1)}, Cases: make([]int, many), Labels: slices.Repeat([]string{"b"}, many+1)})
		},
		"calls": func(many int) api.Func {
			return block(api.Block{Label: "a", Code: slices.Repeat([]api.Instr{{Op: api.OpCall, Name: "\x00"}}, many)})
		},
	}
}

// exactly is such a function, grown until there is no room for one more, and a name that takes the rest of so many bytes.
func exactly(t *testing.T, grow grown, bytes int) api.Func {
	t.Helper()
	few, more := len(show.Func(grow(2))), len(show.Func(grow(3)))
	f := grow(2 + (bytes-few)/(more-few))
	f.Name = long(1 + bytes - len(show.Func(f)))
	if got := len(show.Func(f)); got != bytes || len(f.Name) > api.MaxName {
		t.Fatalf("a function of %d bytes and a name of %d", got, len(f.Name))
	}
	return f
}

// TestFuncLong: a function's text has at most 65,536 bytes, whatever it is long of.
func TestFuncLong(t *testing.T) {
	for what, grow := range growing() {
		for _, bytes := range []int{65_000, 65_535, 65_536, 65_537, 65_538, 66_000, 131_072} {
			f := exactly(t, grow, bytes)
			wantFunc(t, bytes <= 65_536, f)
			if t.Failed() {
				t.Fatalf("%s, %d bytes", what, bytes)
			}
		}
		wantFunc(t, false, grow(100_000))
	}
}

// TestFuncShared: small lists that share memory may come to a text that is far too long to be made.
func TestFuncShared(t *testing.T) {
	args := make([]api.Operand, 1<<14)
	code := slices.Repeat([]api.Instr{{Op: api.OpCall, Args: args}}, 1<<14)
	f := api.Func{Name: "f", Blocks: []api.Block{{Label: "a", Code: code}}}
	if Func(f) || Unit(api.Unit{Func: f}) {
		t.Error("a function whose text is very long is so")
	}
}

// machine is a target that has something of each kind.
func machine() api.Target {
	return api.Target{Regs: [2]int{8, 4}, Clobber: [2][]int{{0, 1}, {0}}, Slots: 16}
}

// at is a place.
func at(kind, class, n int) api.Loc { return api.Loc{Kind: kind, Class: class, N: n} }

// seg is a segment at some place.
func seg(v, from, to int) api.Seg {
	return api.Seg{V: v, From: from, To: to, At: at(api.Preg, 1, 2)}
}

// units are units of each function of both forms, without an allocation, and with one.
func units() []api.Unit {
	var list []api.Unit
	for _, f := range forms() {
		list = append(list, api.Unit{Target: machine(), Func: f}, api.Unit{Target: machine(), Func: f, Has: true}, api.Unit{
			Target: machine(), Func: f, Has: true, Alloc: api.Alloc{Slots: 1, Segs: []api.Seg{seg(2, 0, 4), {V: 2, From: 4, To: 9, At: at(api.Slot, 0, 0)}}},
		})
	}
	return list
}

// TestUnit: units are so, with an allocation and without, and that of zero values but for the name is.
func TestUnit(t *testing.T) {
	for _, u := range units() {
		wantUnit(t, true, u)
	}
	wantUnit(t, false, api.Unit{})
	wantUnit(t, true, api.Unit{Func: api.Func{Name: "f"}})
}

// TestUnitFunc: its function is so, which is asked as of a function.
func TestUnitFunc(t *testing.T) {
	for _, u := range units() {
		for _, f := range []api.Func{
			{}, {Name: "A"}, {Name: "a.b"}, {Name: "f", Params: []api.Operand{vreg(-1)}}, {Name: "f", Regs: []api.Reg{{Class: 2}}},
			{Name: "f", Blocks: []api.Block{{}}}, {Name: "f", Blocks: []api.Block{{Label: "a.b"}}}, {Name: "f", Blocks: []api.Block{{Label: "a", In: []api.Operand{{N: 1}}}}},
		} {
			u.Func = f
			wantUnit(t, false, u)
		}
		for _, i := range wrongs() {
			u.Func = alone(i)
			wantUnit(t, false, u)
		}
		for _, i := range rights() {
			u.Func = alone(i)
			wantUnit(t, true, u)
		}
	}
}

// counts are numbers, and whether how many there are may be told by them.
func counts() map[int]bool {
	return map[int]bool{
		0: true, 1: true, 16: true, 17: true, api.MaxSlots: true, api.MaxSlots + 1: true, api.MaxID: true, api.MaxID + 1: true, 1 << 32: true, greatest - 1: true, greatest: true,
		-1: false, -2: false, -api.MaxID: false, least + 1: false, least: false,
	}
}

// TestUnitTarget: Regs and Slots are not below 0, and may be as great as numbers are.
func TestUnitTarget(t *testing.T) {
	for _, u := range units() {
		for n, want := range counts() {
			changed := u
			changed.Target.Regs[0] = n
			wantUnit(t, want, changed)
			changed = u
			changed.Target.Regs[1] = n
			wantUnit(t, want, changed)
			changed = u
			changed.Target.Slots = n
			wantUnit(t, want, changed)
		}
	}
}

// TestUnitClobber: what a call spoils are IDs, in any order, also twice, and whether there are such registers or not.
func TestUnitClobber(t *testing.T) {
	for _, u := range units()[:3] {
		for _, list := range [][]int{nil, {}, {0}, {api.MaxID}, {0, 1, 2}, {2, 0, 1}, {3, 3}, {api.MaxID, 0, api.MaxID}, ids(), slices.Repeat([]int{5}, 20)} {
			for _, other := range [][]int{nil, {}, {1}, {4, 4, 2}} {
				u.Target.Clobber = [2][]int{list, other}
				wantUnit(t, true, u)
				u.Target.Clobber = [2][]int{other, list}
				wantUnit(t, true, u)
				for place := range list {
					for _, n := range noIDs() {
						wrong := slices.Clone(list)
						wrong[place] = n
						u.Target.Clobber = [2][]int{wrong, other}
						wantUnit(t, false, u)
						u.Target.Clobber = [2][]int{other, wrong}
						wantUnit(t, false, u)
					}
				}
			}
		}
	}
}

// TestUnitHasNone: without an allocation there is nothing of one.
func TestUnitHasNone(t *testing.T) {
	for _, f := range forms() {
		for _, a := range []api.Alloc{{}, {Segs: []api.Seg{}}, {Segs: make([]api.Seg, 0, 5)}} {
			wantUnit(t, true, api.Unit{Target: machine(), Func: f, Alloc: a})
		}
		for _, a := range []api.Alloc{
			{Slots: 1}, {Slots: -1}, {Slots: greatest}, {Slots: least}, {Segs: []api.Seg{{}}}, {Segs: []api.Seg{seg(0, 0, 0)}}, {Segs: []api.Seg{seg(1, 0, 4), seg(2, 0, 4)}},
			{Slots: 1, Segs: []api.Seg{}}, {Slots: 2, Segs: []api.Seg{seg(1, 0, 4)}},
		} {
			wantUnit(t, false, api.Unit{Target: machine(), Func: f, Alloc: a})
		}
	}
}

// TestUnitSlots: an allocation's Slots are not below 0.
func TestUnitSlots(t *testing.T) {
	for _, u := range units() {
		u.Has = true
		for n, want := range counts() {
			u.Alloc.Slots = n
			wantUnit(t, want, u)
		}
	}
}

// places are places, and whether a segment may be there.
func places() map[api.Loc]bool {
	all := map[api.Loc]bool{}
	for _, n := range ids() {
		all[at(api.Preg, 0, n)], all[at(api.Preg, 1, n)], all[at(api.Slot, 0, n)] = true, true, true
		for _, kind := range []int{api.None, api.Vreg, api.Imm, 5, -1, 1 << 32, least, greatest} {
			all[at(kind, 0, n)], all[at(kind, 1, n)] = false, false
		}
		for _, class := range noClasses() {
			all[at(api.Preg, class, n)], all[at(api.Slot, class, n)] = false, false
		}
		all[at(api.Slot, 1, n)] = false
	}
	for _, n := range noIDs() {
		for _, kind := range []int{api.None, api.Vreg, api.Preg, api.Slot, api.Imm} {
			all[at(kind, 0, n)], all[at(kind, 1, n)] = false, false
		}
	}
	return all
}

// TestUnitSegs: each segment's virtual register is an ID, its points are not below 0, and its place is a register or a slot,
// at each place of the list.
func TestUnitSegs(t *testing.T) {
	for _, u := range []api.Unit{{Func: api.Func{Name: "f"}, Has: true}, {Target: machine(), Func: forms()[2], Has: true}} {
		for _, many := range []int{1, 3} {
			check := func(want bool, change func(s *api.Seg)) {
				t.Helper()
				for at := range many {
					u.Alloc.Segs = slices.Repeat([]api.Seg{seg(2, 0, 4)}, many)
					wantUnit(t, true, u)
					change(&u.Alloc.Segs[at])
					wantUnit(t, want, u)
				}
			}
			for _, v := range ids() {
				check(true, func(s *api.Seg) { s.V = v })
			}
			for _, v := range noIDs() {
				check(false, func(s *api.Seg) { s.V = v })
			}
			for n, want := range counts() {
				check(want, func(s *api.Seg) { s.From = n })
				check(want, func(s *api.Seg) { s.To = n })
				check(want, func(s *api.Seg) { s.From, s.To = n, n })
			}
			for place, want := range places() {
				check(want, func(s *api.Seg) { s.At = place })
			}
		}
	}
}

// TestUnitRows: segments stand in any order, also those of one virtual register apart from one another, or the same twice.
func TestUnitRows(t *testing.T) {
	for _, u := range units() {
		u.Has = true
		for _, list := range [][]api.Seg{
			{seg(1, 4, 2)}, {seg(1, 0, 0)}, {seg(1, 4, 9), seg(1, 0, 4)}, {seg(1, 0, 4), seg(2, 0, 4), seg(1, 4, 9)}, {seg(2, 0, 4), seg(1, 0, 4), seg(0, 0, 4)},
			{seg(3, 1, 2), seg(3, 1, 2)}, {seg(3, 1, 2), seg(4, 1, 2), seg(4, 1, 2), seg(3, 1, 2), seg(3, 1, 2)}, slices.Repeat([]api.Seg{seg(5, 1, 2), seg(6, 1, 2)}, 30),
		} {
			u.Alloc.Segs = list
			wantUnit(t, true, u)
		}
	}
}

// longUnits are units that are long of something beside their function, so many of it, at most 24 bytes each.
func longUnits() map[string]func(many int) api.Unit {
	f := api.Func{Name: "f"}
	return map[string]func(many int) api.Unit{
		"one row": func(many int) api.Unit {
			return api.Unit{Func: f, Has: true, Alloc: api.Alloc{Segs: slices.Repeat([]api.Seg{seg(0, 0, 0)}, many)}}
		},
		"rows": func(many int) api.Unit {
			u := api.Unit{Func: f, Has: true, Alloc: api.Alloc{Segs: make([]api.Seg, many)}}
			for place := range u.Alloc.Segs {
				u.Alloc.Segs[place] = seg(place%2, 0, 0)
			}
			return u
		},
		"clobber of g": func(many int) api.Unit {
			return api.Unit{Target: api.Target{Clobber: [2][]int{make([]int, many), nil}}, Func: f}
		},
		"clobber of x": func(many int) api.Unit {
			return api.Unit{Target: api.Target{Clobber: [2][]int{nil, make([]int, many)}}, Func: f, Has: true}
		},
		"func": func(many int) api.Unit {
			return api.Unit{Target: machine(), Func: api.Func{Name: "f", Params: make([]api.Operand, many)}}
		},
	}
}

// TestUnitLong: a unit's text has at most 65,536 bytes, whatever it is long of, though its function's is shorter.
func TestUnitLong(t *testing.T) {
	for what, grow := range longUnits() {
		few, more := len(note.Unit(grow(2))), len(note.Unit(grow(3)))
		for _, bytes := range []int{65_000, 65_535, 65_536, 65_537, 65_538, 131_072} {
			u := grow(2 + (bytes-few)/(more-few))
			u.Func.Name = long(1 + bytes - len(note.Unit(u)))
			if got := len(note.Unit(u)); got != bytes || len(u.Func.Name) > api.MaxName {
				t.Fatalf("%s: a unit of %d bytes", what, got)
			}
			if bytes <= 65_538 {
				wantFunc(t, true, u.Func)
			}
			wantUnit(t, bytes <= 65_536, u)
		}
		wantUnit(t, false, grow(100_000))
	}
}

// TestUnitFuncLong: a function's text that is just not too long is, with a target.
func TestUnitFuncLong(t *testing.T) {
	for _, grow := range growing() {
		f := exactly(t, grow, 65_536)
		wantFunc(t, true, f)
		wantUnit(t, false, api.Unit{Func: f})
		wantUnit(t, false, api.Unit{Func: exactly(t, grow, 65_537)})
		ahead := len(note.Target(api.Target{}))
		wantUnit(t, true, api.Unit{Func: exactly(t, grow, 65_536-ahead)})
		wantUnit(t, false, api.Unit{Func: exactly(t, grow, 65_536-ahead+1)})
		behind := len(note.Alloc(api.Alloc{}))
		wantUnit(t, true, api.Unit{Func: exactly(t, grow, 65_536-ahead-behind), Has: true})
		wantUnit(t, false, api.Unit{Func: exactly(t, grow, 65_536-ahead-behind+1), Has: true})
	}
}
