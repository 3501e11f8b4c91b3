package show

import (
	"fmt"
	"math"
	"reflect"
	"slices"
	"strconv"
	"strings"
	"sync"
	"testing"

	"dyehouse/api"
)

const (
	least    = math.MinInt64
	greatest = math.MaxInt64
)

func vreg(n int) api.Operand { return api.Operand{Kind: api.Vreg, N: n} }
func imm(n int) api.Operand  { return api.Operand{Kind: api.Imm, N: n} }
func slot(n, tag int) api.Operand {
	return api.Operand{Kind: api.Slot, N: n, Tag: tag}
}
func preg(class, n, tag int) api.Operand {
	return api.Operand{Kind: api.Preg, Class: class, N: n, Tag: tag}
}

// nothing is the operand that is none.
func nothing() api.Operand { return api.Operand{} }

// roomy is a list with memory behind its length, in which there are other elements.
func roomy[T any](behind T, list ...T) []T {
	whole := append(slices.Clone(list), behind, behind, behind)
	return whole[:len(list)]
}

// numbers are numbers and their texts, by hand.
func numbers() map[int]string {
	return map[int]string{
		0:              "0",
		1:              "1",
		7:              "7",
		9:              "9",
		10:             "10",
		11:             "11",
		42:             "42",
		99:             "99",
		100:            "100",
		255:            "255",
		256:            "256",
		1023:           "1023",
		1024:           "1024",
		65536:          "65536",
		2147483647:     "2147483647",
		2147483648:     "2147483648",
		-1:             "-1",
		-9:             "-9",
		-10:            "-10",
		-42:            "-42",
		-2147483648:    "-2147483648",
		least:          "-9223372036854775808",
		least + 1:      "-9223372036854775807",
		greatest - 1:   "9223372036854775806",
		greatest:       "9223372036854775807",
		10000000000000: "10000000000000",
	}
}

// noClasses are numbers of which there is no class.
func noClasses() []int {
	return []int{least, -256, -2, -1, 2, 3, 4, 256, 257, greatest}
}

// noKinds are numbers of which there is no kind of operands.
func noKinds() []int {
	return []int{least, -256, -5, -4, -3, -2, -1, 5, 6, 7, 8, 255, 256, 257, 258, 259, 260, 1 << 32, 1<<32 + 1, greatest}
}

// noOps are numbers of which there is no operation.
func noOps() []int {
	return []int{least, -256, -28, -27, -20, -19, -18, -1, 0, 28, 29, 32, 255, 256, 257, 256 + api.OpCall, 256 + api.OpSwitch, 1 << 32, 1<<32 + api.OpLoad, greatest}
}

// names are the operations' names, by the document's table.
func names() map[int]string {
	return map[int]string{
		api.OpAdd: "add", api.OpSub: "sub", api.OpMul: "mul", api.OpAnd: "and", api.OpOr: "or", api.OpXor: "xor",
		api.OpShl: "shl", api.OpShr: "shr", api.OpSar: "sar", api.OpDiv: "div", api.OpRem: "rem", api.OpEq: "eq",
		api.OpNe: "ne", api.OpLt: "lt", api.OpLe: "le", api.OpCopy: "copy", api.OpLoad: "load", api.OpStore: "store",
		api.OpCall: "call", api.OpBr: "br", api.OpBrif: "brif", api.OpSwitch: "switch", api.OpRet: "ret",
		api.OpMove: "move", api.OpSpill: "spill", api.OpReload: "reload", api.OpSwap: "swap",
	}
}

// everyOp are all operations, and numbers that are none, rising.
func everyOp() []int {
	ops := noOps()
	for op := range names() {
		ops = append(ops, op)
	}
	slices.Sort(ops)
	return ops
}

// same asks whether a text is what it must be.
func same(t *testing.T, got, want string) {
	t.Helper()
	if got != want {
		t.Errorf("told %q, not %q", got, want)
	}
}

// TestVreg: 14.1, of Vreg.
func TestVreg(t *testing.T) {
	for n, text := range numbers() {
		same(t, Vreg(n), "%"+text)
	}
	for n := -1100; n <= 1100; n++ {
		same(t, Vreg(n), "%"+strconv.Itoa(n))
	}
}

// TestOperandNone: an operand of kind None is told alike, whatever else it has.
func TestOperandNone(t *testing.T) {
	same(t, Operand(nothing()), "_")
	for n := range numbers() {
		same(t, Operand(api.Operand{Class: n, N: n, Tag: n}), "_")
	}
}

// TestOperandVreg: of a virtual register just its number counts.
func TestOperandVreg(t *testing.T) {
	for n, text := range numbers() {
		same(t, Operand(vreg(n)), "%"+text)
		same(t, Operand(api.Operand{Kind: api.Vreg, Class: api.ClassX, N: n, Tag: 3}), "%"+text)
		same(t, Operand(api.Operand{Kind: api.Vreg, Class: n, N: 5, Tag: n}), "%5")
	}
}

// TestOperandImm: of a number just that counts.
func TestOperandImm(t *testing.T) {
	for n, text := range numbers() {
		same(t, Operand(imm(n)), text)
		same(t, Operand(api.Operand{Kind: api.Imm, Class: api.ClassX, N: n, Tag: 3}), text)
		same(t, Operand(api.Operand{Kind: api.Imm, Class: n, N: -5, Tag: n}), "-5")
	}
}

// TestOperandPreg: of a register of both classes its name, and its tag.
func TestOperandPreg(t *testing.T) {
	for n, text := range numbers() {
		same(t, Operand(preg(api.ClassG, n, 0)), "$g"+text+":%0")
		same(t, Operand(preg(api.ClassX, n, 0)), "$x"+text+":%0")
		same(t, Operand(preg(api.ClassG, 0, n)), "$g0:%"+text)
		same(t, Operand(preg(api.ClassX, 3, n)), "$x3:%"+text)
		same(t, Operand(preg(api.ClassX, n, n)), "$x"+text+":%"+text)
	}
	same(t, Operand(preg(api.ClassG, 12, 34)), "$g12:%34")
	same(t, Operand(preg(api.ClassX, 1, -7)), "$x1:%-7")
	same(t, Operand(preg(api.ClassG, -1, 12)), "$g-1:%12")
}

// TestOperandPregOfNoClass: of a class that there is not the name is empty; the colon and the tag stand.
func TestOperandPregOfNoClass(t *testing.T) {
	for _, class := range noClasses() {
		for n, text := range numbers() {
			same(t, Operand(preg(class, n, 0)), ":%0")
			same(t, Operand(preg(class, 4, n)), ":%"+text)
		}
	}
}

// TestOperandSlot: of a slot its name, and its tag, whatever its class.
func TestOperandSlot(t *testing.T) {
	classes := append(noClasses(), api.ClassG, api.ClassX)
	for n, text := range numbers() {
		for _, class := range classes {
			same(t, Operand(api.Operand{Kind: api.Slot, Class: class, N: n}), "#"+text+":%0")
			same(t, Operand(api.Operand{Kind: api.Slot, Class: class, N: 6, Tag: n}), "#6:%"+text)
		}
		same(t, Operand(slot(n, n)), "#"+text+":%"+text)
	}
	same(t, Operand(slot(0, 0)), "#0:%0")
	same(t, Operand(slot(4095, 12)), "#4095:%12")
	same(t, Operand(slot(-1, -2)), "#-1:%-2")
}

// TestOperandOfNoKind: an operand of a kind that there is not is told as a question mark, whatever else it has.
func TestOperandOfNoKind(t *testing.T) {
	for _, kind := range noKinds() {
		same(t, Operand(api.Operand{Kind: kind}), "?")
		for n := range numbers() {
			same(t, Operand(api.Operand{Kind: kind, Class: n, N: n, Tag: n}), "?")
			same(t, Operand(api.Operand{Kind: kind, Class: api.ClassX, N: n, Tag: 1}), "?")
		}
	}
}

// someDst are operands of each kind, and of none, that may stand ahead of an operation, with what stands there.
func someDst() map[api.Operand]string {
	return map[api.Operand]string{
		nothing():                            "",
		{N: 7, Class: api.ClassX, Tag: 3}:    "",
		vreg(0):                              "%0 = ",
		vreg(12):                             "%12 = ",
		vreg(-1):                             "%-1 = ",
		preg(api.ClassG, 1, 2):               "$g1:%2 = ",
		preg(api.ClassX, 10, 0):              "$x10:%0 = ",
		preg(2, 3, 4):                        ":%4 = ",
		slot(5, 6):                           "#5:%6 = ",
		{Kind: api.Slot, Class: 1, N: 8}:     "#8:%0 = ",
		imm(0):                               "0 = ",
		imm(-9):                              "-9 = ",
		{Kind: 5, N: 1, Tag: 1}:              "? = ",
		{Kind: -1, N: 1}:                     "? = ",
		{Kind: greatest, Class: api.ClassX}:  "? = ",
		{Kind: api.Imm, Class: 1, Tag: 9}:    "0 = ",
		{Kind: api.Vreg, Class: -4, Tag: 11}: "%0 = ",
	}
}

// someArgs are lists of operands, with their texts in a row.
func someArgs() []struct {
	list []api.Operand
	text string
} {
	return []struct {
		list []api.Operand
		text string
	}{
		{nil, ""},
		{[]api.Operand{}, ""},
		{[]api.Operand{vreg(0)}, "%0"},
		{[]api.Operand{nothing()}, "_"},
		{[]api.Operand{imm(-1)}, "-1"},
		{[]api.Operand{{Kind: 5}}, "?"},
		{[]api.Operand{vreg(1), imm(2)}, "%1, 2"},
		{[]api.Operand{preg(1, 2, 3), slot(4, 5)}, "$x2:%3, #4:%5"},
		{[]api.Operand{nothing(), nothing()}, "_, _"},
		{[]api.Operand{vreg(10), imm(least), preg(0, 0, 0)}, "%10, -9223372036854775808, $g0:%0"},
		{[]api.Operand{{Kind: -1}, nothing(), preg(-1, 2, 13)}, "?, _, :%13"},
		{[]api.Operand{vreg(3), vreg(3), vreg(3)}, "%3, %3, %3"},
	}
}

// TestInstrOperations: every operation with each Dst, and no Args up to three; of those that do tell more, that is empty.
func TestInstrOperations(t *testing.T) {
	for _, o := range everyOp() {
		name := names()[o]
		if name == "" {
			name = "?"
		}
		for dst, ahead := range someDst() {
			for _, args := range someArgs() {
				want := ahead + name
				switch {
				case o == api.OpCall:
					want += ` ""(` + args.text + ")"
				case len(args.list) > 0:
					want += " " + args.text
				}
				if o == api.OpSwitch {
					want += " [else: ]"
				}
				same(t, Instr(api.Instr{Op: o, Dst: dst, Args: args.list}), want)
			}
		}
	}
}

// instrCase is an instruction and its text, by hand.
type instrCase struct {
	instr api.Instr
	want  string
}

// instrTest asks for the texts of instructions.
func instrTest(t *testing.T, cases ...instrCase) {
	t.Helper()
	for _, c := range cases {
		same(t, Instr(c.instr), c.want)
	}
}

// TestInstr: the chapter's example, and instructions as they are in functions.
func TestInstr(t *testing.T) {
	instrTest(t,
		instrCase{api.Instr{Op: api.OpLoad, Dst: vreg(2), Args: []api.Operand{vreg(1)}, Off: -8}, "%2 = load %1 + -8"},
		instrCase{api.Instr{Op: api.OpAdd, Dst: vreg(0), Args: []api.Operand{vreg(0), imm(1)}}, "%0 = add %0, 1"},
		instrCase{api.Instr{Op: api.OpStore, Args: []api.Operand{vreg(3), vreg(4)}, Off: 16}, "store %3, %4 + 16"},
		instrCase{api.Instr{Op: api.OpCopy, Dst: vreg(5), Args: []api.Operand{imm(-3)}}, "%5 = copy -3"},
		instrCase{api.Instr{Op: api.OpRet, Args: []api.Operand{vreg(0)}}, "ret %0"},
		instrCase{api.Instr{Op: api.OpBr, Labels: []string{"b"}}, "br b"},
		instrCase{api.Instr{Op: api.OpBrif, Args: []api.Operand{vreg(1)}, Labels: []string{"yes", "no"}}, "brif %1, yes, no"},
		instrCase{api.Instr{Op: api.OpMove, Dst: preg(0, 1, 2), Args: []api.Operand{preg(0, 3, 2)}}, "$g1:%2 = move $g3:%2"},
		instrCase{api.Instr{Op: api.OpSpill, Dst: slot(0, 2), Args: []api.Operand{preg(0, 3, 2)}}, "#0:%2 = spill $g3:%2"},
		instrCase{api.Instr{Op: api.OpReload, Dst: preg(1, 3, 2), Args: []api.Operand{slot(0, 2)}}, "$x3:%2 = reload #0:%2"},
		instrCase{api.Instr{Op: api.OpSwap, Args: []api.Operand{preg(0, 1, 2), preg(0, 3, 4)}}, "swap $g1:%2, $g3:%4"},
		instrCase{api.Instr{}, "?"},
	)
}

// TestInstrOfNone: of an operation that there is not: a question mark; it takes neither a name, nor Off, labels, cases.
func TestInstrOfNone(t *testing.T) {
	for _, o := range noOps() {
		instrTest(t,
			instrCase{api.Instr{Op: o}, "?"},
			instrCase{api.Instr{Op: o, Dst: vreg(1)}, "%1 = ?"},
			instrCase{api.Instr{Op: o, Args: []api.Operand{vreg(2)}}, "? %2"},
			instrCase{api.Instr{Op: o, Dst: slot(3, 1), Args: []api.Operand{vreg(2), imm(4)}}, "#3:%1 = ? %2, 4"},
			instrCase{api.Instr{Op: o, Dst: vreg(1), Args: []api.Operand{vreg(2)}, Name: "f", Off: 4, Labels: []string{"a", "b"}, Cases: []int{1}}, "%1 = ? %2"},
			instrCase{api.Instr{Op: o, Name: "f", Off: 4, Labels: []string{"a", "b"}, Cases: []int{1}}, "?"},
		)
	}
}

// TestInstrCall: whom a call calls stands between quotes; its parentheses stand without Args, too.
func TestInstrCall(t *testing.T) {
	call := func(name string, args ...api.Operand) api.Instr {
		return api.Instr{Op: api.OpCall, Name: name, Args: args}
	}
	instrTest(t,
		instrCase{call(""), `call ""()`},
		instrCase{call("f"), `call "f"()`},
		instrCase{call("f", vreg(1)), `call "f"(%1)`},
		instrCase{call("f", vreg(1), imm(-2), slot(3, 4)), `call "f"(%1, -2, #3:%4)`},
		instrCase{call("", nothing(), preg(0, 1, 2)), `call ""(_, $g1:%2)`},
		instrCase{call(`say "hi"`, imm(0)), `call "say \"hi\""(0)`},
		instrCase{call(`"`), `call "\""()`},
		instrCase{call(`a\b`), `call "a\\b"()`},
		instrCase{call("a b, c(d)"), `call "a b, c(d)"()`},
		instrCase{call("a\nb\tc"), `call "a\nb\tc"()`},
		instrCase{call("\x00\x01\x1f\r"), `call "\x00\x01\x1f\x0d"()`},
		instrCase{call(" ~\x7f\x80\xff"), `call " ~\x7f\x80\xff"()`},
		instrCase{call("é"), `call "\xc3\xa9"()`},
		instrCase{call(strings.Repeat("n", 64)), `call "` + strings.Repeat("n", 64) + `"()`},
		instrCase{call(strings.Repeat("n", 1000)), `call "` + strings.Repeat("n", 1000) + `"()`},
		instrCase{call("f", slices.Repeat([]api.Operand{imm(1)}, 9)...), `call "f"(1, 1, 1, 1, 1, 1, 1, 1, 1)`},
	)
}

// TestInstrCallBytes: each byte of a call's name is told as between quotes.
func TestInstrCallBytes(t *testing.T) {
	for b := range 256 {
		var want string
		switch {
		case b == '"' || b == '\\':
			want = `\` + string(rune(b))
		case b == '\n':
			want = `\n`
		case b == '\t':
			want = `\t`
		case 32 <= b && b <= 126:
			want = string(rune(b))
		default:
			want = fmt.Sprintf(`\x%02x`, b)
		}
		same(t, Instr(api.Instr{Op: api.OpCall, Name: string([]byte{byte(b)})}), `call "`+want+`"()`)
	}
}

// TestInstrCallAlone: a call tells neither labels, nor cases, nor Off.
func TestInstrCallAlone(t *testing.T) {
	instrTest(t,
		instrCase{api.Instr{Op: api.OpCall, Name: "f", Labels: []string{"a", "b"}, Cases: []int{1}, Off: 8}, `call "f"()`},
		instrCase{api.Instr{Op: api.OpCall, Dst: vreg(1), Name: "f", Args: []api.Operand{vreg(2)}, Labels: []string{"a"}, Cases: []int{1, 2}, Off: -8}, `%1 = call "f"(%2)`},
	)
}

// TestInstrLabels: of br and brif the labels stand behind the Args, in one row with them.
func TestInstrLabels(t *testing.T) {
	for o, name := range map[int]string{api.OpBr: "br", api.OpBrif: "brif"} {
		for _, args := range someArgs() {
			for _, labels := range []struct {
				list []string
				text string
			}{
				{nil, ""},
				{[]string{}, ""},
				{[]string{"a"}, "a"},
				{[]string{"p.q"}, "p.q"},
				{[]string{""}, ""},
				{[]string{"a", "b"}, "a, b"},
				{[]string{"b", "a"}, "b, a"},
				{[]string{"a", "a"}, "a, a"},
				{[]string{"", ""}, ", "},
				{[]string{"a", "", "c"}, "a, , c"},
				{[]string{"a b", "\x00\xff\n", `"`}, "a b, \x00\xff\n, \""},
			} {
				want := name
				if len(args.list)+len(labels.list) > 0 {
					want += " " + args.text
				}
				if len(args.list) > 0 && len(labels.list) > 0 {
					want += ", "
				}
				want += labels.text
				same(t, Instr(api.Instr{Op: o, Args: args.list, Labels: labels.list}), want)
				same(t, Instr(api.Instr{Op: o, Args: args.list, Labels: labels.list, Name: "f", Off: 3, Cases: []int{1}}), want)
			}
		}
	}
	instrTest(t,
		instrCase{api.Instr{Op: api.OpBr, Labels: []string{"a"}}, "br a"},
		instrCase{api.Instr{Op: api.OpBr, Labels: []string{""}}, "br "},
		instrCase{api.Instr{Op: api.OpBrif, Labels: []string{"a", "b"}}, "brif a, b"},
		instrCase{api.Instr{Op: api.OpBrif, Args: []api.Operand{vreg(1)}}, "brif %1"},
		instrCase{api.Instr{Op: api.OpBr, Dst: vreg(1), Args: []api.Operand{vreg(2), imm(3)}, Labels: []string{"a"}}, "%1 = br %2, 3, a"},
	)
}

// TestInstrLabelsOfOthers: no other operation but switch tells labels, and none but that tells cases.
func TestInstrLabelsOfOthers(t *testing.T) {
	for _, o := range everyOp() {
		switch o {
		case api.OpBr, api.OpBrif, api.OpSwitch:
			continue
		}
		for _, labels := range [][]string{{"a"}, {"a", "b"}, {""}} {
			for _, args := range someArgs() {
				bare := api.Instr{Op: o, Dst: vreg(1), Args: args.list}
				more := bare
				more.Labels, more.Cases = labels, []int{1, 2}
				same(t, Instr(more), Instr(bare))
			}
		}
	}
	instrTest(t,
		instrCase{api.Instr{Op: api.OpRet, Labels: []string{"a"}}, "ret"},
		instrCase{api.Instr{Op: api.OpRet, Args: []api.Operand{imm(1)}, Labels: []string{"a"}, Cases: []int{4}}, "ret 1"},
		instrCase{api.Instr{Op: api.OpStore, Args: []api.Operand{vreg(1), vreg(2)}, Labels: []string{"a"}, Off: 2}, "store %1, %2 + 2"},
	)
}

// TestInstrOff: of load and store Off stands behind the last of Args, if that is there, and Off is not 0.
func TestInstrOff(t *testing.T) {
	for o, name := range map[int]string{api.OpLoad: "load", api.OpStore: "store"} {
		for off, text := range numbers() {
			behind := " + " + text
			if off == 0 {
				behind = ""
			}
			for _, args := range someArgs() {
				want := name
				if len(args.list) > 0 {
					want += " " + args.text + behind
				}
				same(t, Instr(api.Instr{Op: o, Args: args.list, Off: off}), want)
				same(t, Instr(api.Instr{Op: o, Dst: vreg(6), Args: args.list, Off: off}), "%6 = "+want)
			}
		}
	}
	instrTest(t,
		instrCase{api.Instr{Op: api.OpLoad, Dst: vreg(1), Off: 8}, "%1 = load"},
		instrCase{api.Instr{Op: api.OpStore, Off: 8}, "store"},
		instrCase{api.Instr{Op: api.OpLoad, Args: []api.Operand{imm(4)}, Off: 5}, "load 4 + 5"},
		instrCase{api.Instr{Op: api.OpLoad, Args: []api.Operand{nothing()}, Off: least}, "load _ + -9223372036854775808"},
	)
}

// TestInstrOffOfOthers: no other operation tells Off.
func TestInstrOffOfOthers(t *testing.T) {
	for _, o := range everyOp() {
		if o == api.OpLoad || o == api.OpStore {
			continue
		}
		for _, off := range []int{least, -8, -1, 1, 8, greatest} {
			for _, args := range someArgs() {
				bare := api.Instr{Op: o, Dst: vreg(1), Args: args.list, Labels: []string{"a", "b"}, Cases: []int{1}}
				more := bare
				more.Off = off
				same(t, Instr(more), Instr(bare))
			}
		}
	}
	instrTest(t,
		instrCase{api.Instr{Op: api.OpAdd, Dst: vreg(1), Args: []api.Operand{vreg(1), vreg(2)}, Off: 8}, "%1 = add %1, %2"},
		instrCase{api.Instr{Op: api.OpReload, Dst: preg(0, 1, 2), Args: []api.Operand{slot(1, 2)}, Off: 8}, "$g1:%2 = reload #1:%2"},
	)
}

// TestInstrNameOfOthers: no other operation but call tells a name.
func TestInstrNameOfOthers(t *testing.T) {
	for _, o := range everyOp() {
		if o == api.OpCall {
			continue
		}
		for _, args := range someArgs() {
			bare := api.Instr{Op: o, Dst: vreg(1), Args: args.list, Labels: []string{"a", "b"}, Cases: []int{1}, Off: 3}
			more := bare
			more.Name = "f"
			same(t, Instr(more), Instr(bare))
		}
	}
}

// TestInstrSwitch: of each case its number and its label, and what stands behind as many labels as there are cases.
func TestInstrSwitch(t *testing.T) {
	one := []api.Operand{vreg(1)}
	on := func(cases []int, labels ...string) api.Instr {
		return api.Instr{Op: api.OpSwitch, Args: one, Cases: cases, Labels: labels}
	}
	instrTest(t,
		instrCase{on(nil), "switch %1 [else: ]"},
		instrCase{on(nil, "a"), "switch %1 [else: a]"},
		instrCase{on([]int{}, "a", "b"), "switch %1 [else: a]"},
		instrCase{on(nil, "", "b"), "switch %1 [else: ]"},
		instrCase{on([]int{5}), "switch %1 [5: , else: ]"},
		instrCase{on([]int{5}, "a"), "switch %1 [5: a, else: ]"},
		instrCase{on([]int{5}, "a", "b"), "switch %1 [5: a, else: b]"},
		instrCase{on([]int{5}, "a", "b", "c"), "switch %1 [5: a, else: b]"},
		instrCase{on([]int{5}, "", "b"), "switch %1 [5: , else: b]"},
		instrCase{on([]int{5}, "a", ""), "switch %1 [5: a, else: ]"},
		instrCase{on([]int{1, 2}), "switch %1 [1: , 2: , else: ]"},
		instrCase{on([]int{1, 2}, "a"), "switch %1 [1: a, 2: , else: ]"},
		instrCase{on([]int{1, 2}, "a", "b"), "switch %1 [1: a, 2: b, else: ]"},
		instrCase{on([]int{1, 2}, "a", "b", "c"), "switch %1 [1: a, 2: b, else: c]"},
		instrCase{on([]int{1, 2}, "a", "b", "c", "d", "e"), "switch %1 [1: a, 2: b, else: c]"},
		instrCase{on([]int{2, 1, 1}, "a", "a", "p.q", "a"), "switch %1 [2: a, 1: a, 1: p.q, else: a]"},
		instrCase{on([]int{least, -1, 0, greatest}, "a", "b", "c", "d", "e"), "switch %1 [-9223372036854775808: a, -1: b, 0: c, 9223372036854775807: d, else: e]"},
		instrCase{on([]int{1}, "a b", "\x00\n"), "switch %1 [1: a b, else: \x00\n]"},
		instrCase{api.Instr{Op: api.OpSwitch}, "switch [else: ]"},
		instrCase{api.Instr{Op: api.OpSwitch, Labels: []string{"a"}}, "switch [else: a]"},
		instrCase{api.Instr{Op: api.OpSwitch, Cases: []int{1}, Labels: []string{"a", "b"}}, "switch [1: a, else: b]"},
		instrCase{api.Instr{Op: api.OpSwitch, Dst: vreg(0), Args: []api.Operand{vreg(1), imm(2)}, Cases: []int{3}, Labels: []string{"a", "b"}, Name: "f", Off: 7}, "%0 = switch %1, 2 [3: a, else: b]"},
	)
}

// TestInstrSwitchMany: of each number of cases and of labels, more than a function may have (16).
func TestInstrSwitchMany(t *testing.T) {
	for many := range 20 {
		for has := range many + 4 {
			i := api.Instr{Op: api.OpSwitch, Args: []api.Operand{vreg(0)}}
			for n := range has {
				i.Labels = append(i.Labels, fmt.Sprintf("b%d", n))
			}
			of := func(n int) string {
				if n < has {
					return fmt.Sprintf("b%d", n)
				}
				return ""
			}
			var row []string
			for n := range many {
				i.Cases = append(i.Cases, 3*n-20)
				row = append(row, fmt.Sprintf("%d: %s", 3*n-20, of(n)))
			}
			row = append(row, "else: "+of(many))
			same(t, Instr(i), "switch %0 ["+strings.Join(row, ", ")+"]")
		}
	}
}

// TestHead: 14.3, of Head, by hand.
func TestHead(t *testing.T) {
	for _, c := range []struct {
		block api.Block
		want  string
	}{
		{api.Block{}, ":"},
		{api.Block{Label: "a"}, "a:"},
		{api.Block{Label: "b10"}, "b10:"},
		{api.Block{Label: "a.b"}, "a.b:"},
		{api.Block{Label: "edge"}, "edge:"},
		{api.Block{Label: "edge", Edge: true}, "edge edge:"},
		{api.Block{Label: "a.b", Edge: true}, "edge a.b:"},
		{api.Block{Label: "a", Edge: true}, "edge a:"},
		{api.Block{Edge: true}, "edge :"},
		{api.Block{Label: "a", In: []api.Operand{}}, "a:"},
		{api.Block{Label: "a", In: []api.Operand{preg(0, 1, 2)}}, "a [$g1:%2]:"},
		{api.Block{Label: "a", In: []api.Operand{nothing()}}, "a [_]:"},
		{api.Block{Label: "a", In: []api.Operand{{Kind: 9}}}, "a [?]:"},
		{api.Block{Label: "a", In: []api.Operand{preg(0, 1, 2), slot(3, 4), preg(1, 0, 12)}}, "a [$g1:%2, #3:%4, $x0:%12]:"},
		{api.Block{Label: "a.b", Edge: true, In: []api.Operand{slot(0, 1), vreg(2)}}, "edge a.b [#0:%1, %2]:"},
		{api.Block{In: []api.Operand{imm(5)}}, " [5]:"},
		{api.Block{Edge: true, In: []api.Operand{imm(5), imm(-6)}}, "edge  [5, -6]:"},
		{api.Block{Label: "é \n\xff", In: nil}, "é \n\xff:"},
		{api.Block{Label: "a", Code: []api.Instr{{Op: api.OpRet}}}, "a:"},
	} {
		same(t, Head(c.block), c.want)
	}
}

// TestBlock: 14.3, of Block, by hand.
func TestBlock(t *testing.T) {
	ret := api.Instr{Op: api.OpRet, Args: []api.Operand{vreg(0)}}
	add := api.Instr{Op: api.OpAdd, Dst: vreg(0), Args: []api.Operand{vreg(0), imm(1)}}
	call := api.Instr{Op: api.OpCall, Name: "a\n;"}
	for _, c := range []struct {
		block api.Block
		want  string
	}{
		{api.Block{}, ":\n"},
		{api.Block{Label: "a"}, "a:\n"},
		{api.Block{Label: "a", Code: []api.Instr{}}, "a:\n"},
		{api.Block{Label: "a", Code: []api.Instr{ret}}, "a:\n  ret %0;\n"},
		{api.Block{Label: "a", Code: []api.Instr{add, call, ret}}, "a:\n  %0 = add %0, 1;\n  call \"a\\n;\"();\n  ret %0;\n"},
		{api.Block{Label: "a", Code: []api.Instr{{}, {}}}, "a:\n  ?;\n  ?;\n"},
		{api.Block{Label: "a.b", Edge: true, In: []api.Operand{slot(0, 1)}, Code: []api.Instr{{Op: api.OpBr, Labels: []string{"b"}}}}, "edge a.b [#0:%1]:\n  br b;\n"},
	} {
		same(t, Block(c.block), c.want)
	}
}

// TestFunc: 14.3, of Func, by hand.
func TestFunc(t *testing.T) {
	ret := []api.Instr{{Op: api.OpRet}}
	for _, c := range []struct {
		f    api.Func
		want string
	}{
		{api.Func{}, "func () {\n}\n"},
		{api.Func{Machine: true}, "machine () {\n}\n"},
		{api.Func{Name: "f"}, "func f() {\n}\n"},
		{api.Func{Machine: true, Name: "f"}, "machine f() {\n}\n"},
		{api.Func{Name: "machine"}, "func machine() {\n}\n"},
		{api.Func{Name: "a b\n\xff"}, "func a b\n\xff() {\n}\n"},
		{api.Func{Name: "f", Params: []api.Operand{}, Regs: []api.Reg{}, Blocks: []api.Block{}}, "func f() {\n}\n"},
		{api.Func{Name: "f", Params: []api.Operand{vreg(0)}}, "func f(%0) {\n}\n"},
		{api.Func{Name: "f", Params: []api.Operand{vreg(0), vreg(12), vreg(-1)}}, "func f(%0, %12, %-1) {\n}\n"},
		{api.Func{Machine: true, Name: "f", Params: []api.Operand{preg(0, 0, 1), slot(2, 3), nothing(), {Kind: 5}}}, "machine f($g0:%1, #2:%3, _, ?) {\n}\n"},
		{api.Func{Name: "f", Regs: []api.Reg{{}}}, "func f() {\nregs %0:g;\n}\n"},
		{api.Func{Name: "f", Regs: []api.Reg{{ID: 3, Class: api.ClassX}}}, "func f() {\nregs %3:x;\n}\n"},
		{api.Func{Name: "f", Regs: []api.Reg{{ID: 1}, {ID: 0, Class: 1}, {ID: 12}, {ID: 1}}}, "func f() {\nregs %1:g %0:x %12:g %1:g;\n}\n"},
		{api.Func{Machine: true, Regs: []api.Reg{{ID: -1, Class: 2}, {ID: greatest, Class: -1}}}, "machine () {\nregs %-1: %9223372036854775807:;\n}\n"},
		{api.Func{Name: "f", Regs: []api.Reg{{ID: least, Class: 1}}}, "func f() {\nregs %-9223372036854775808:x;\n}\n"},
		{api.Func{Name: "f", Blocks: []api.Block{{Label: "a", Code: ret}}}, "func f() {\na:\n  ret;\n}\n"},
		{api.Func{Name: "f", Blocks: []api.Block{{}, {Label: "b"}}}, "func f() {\n:\nb:\n}\n"},
		{api.Func{Name: "f", Blocks: []api.Block{{Label: "a", Code: ret}, {Label: "b", Code: ret}, {Label: "a.b", Edge: true, Code: ret}}},
			"func f() {\na:\n  ret;\nb:\n  ret;\nedge a.b:\n  ret;\n}\n"},
	} {
		same(t, Func(c.f), c.want)
	}
}

// loop is a function with all that one of virtual registers may have.
func loop() api.Func {
	return api.Func{
		Name:   "loop",
		Params: []api.Operand{vreg(0), vreg(1)},
		Regs:   []api.Reg{{ID: 0}, {ID: 1, Class: api.ClassX}, {ID: 2}},
		Blocks: []api.Block{
			{Label: "a", Code: []api.Instr{
				{Op: api.OpLoad, Dst: vreg(2), Args: []api.Operand{vreg(1)}, Off: -8},
				{Op: api.OpSwitch, Args: []api.Operand{vreg(2)}, Cases: []int{1, -2}, Labels: []string{"b", "c", "a"}},
			}},
			{Label: "b", Code: []api.Instr{
				{Op: api.OpCall, Dst: vreg(0), Name: "out\t", Args: []api.Operand{vreg(2), imm(7)}},
				{Op: api.OpStore, Args: []api.Operand{vreg(0), vreg(1)}, Off: 4},
				{Op: api.OpBrif, Args: []api.Operand{vreg(0)}, Labels: []string{"b", "c"}},
			}},
			{Label: "c", Code: []api.Instr{{Op: api.OpRet, Args: []api.Operand{vreg(0)}}}},
		},
	}
}

// machine is machine code with all that such may have.
func machine() api.Func {
	return api.Func{
		Machine: true,
		Name:    "m",
		Params:  []api.Operand{preg(0, 0, 0), slot(0, 1)},
		Regs:    []api.Reg{{ID: 0}, {ID: 1, Class: api.ClassX}},
		Blocks: []api.Block{
			{Label: "a", In: []api.Operand{preg(0, 0, 0), slot(0, 1)}, Code: []api.Instr{
				{Op: api.OpReload, Dst: preg(1, 0, 1), Args: []api.Operand{slot(0, 1)}},
				{Op: api.OpStore, Args: []api.Operand{preg(0, 0, 0), preg(1, 0, 1)}},
				{Op: api.OpBr, Labels: []string{"a.b"}},
			}},
			{Label: "a.b", Edge: true, In: []api.Operand{preg(0, 0, 0)}, Code: []api.Instr{
				{Op: api.OpMove, Dst: preg(0, 3, 0), Args: []api.Operand{preg(0, 0, 0)}},
				{Op: api.OpBr, Labels: []string{"b"}},
			}},
			{Label: "b", In: []api.Operand{preg(0, 3, 0)}, Code: []api.Instr{
				{Op: api.OpSwap, Args: []api.Operand{preg(0, 3, 0), preg(0, 1, 0)}},
				{Op: api.OpRet, Args: []api.Operand{imm(-1)}},
			}},
		},
	}
}

const loopText = `func loop(%0, %1) {
regs %0:g %1:x %2:g;
a:
  %2 = load %1 + -8;
  switch %2 [1: b, -2: c, else: a];
b:
  %0 = call "out\t"(%2, 7);
  store %0, %1 + 4;
  brif %0, b, c;
c:
  ret %0;
}
`

const machineText = `machine m($g0:%0, #0:%1) {
regs %0:g %1:x;
a [$g0:%0, #0:%1]:
  $x0:%1 = reload #0:%1;
  store $g0:%0, $x0:%1;
  br a.b;
edge a.b [$g0:%0]:
  $g3:%0 = move $g0:%0;
  br b;
b [$g3:%0]:
  swap $g3:%0, $g1:%0;
  ret -1;
}
`

// TestFuncWhole: whole functions of both forms, by hand.
func TestFuncWhole(t *testing.T) {
	same(t, Func(loop()), loopText)
	same(t, Func(machine()), machineText)
}

// The model tells of pieces that are joined, and knows no writer.

// modelOperand is an operand's text.
func modelOperand(o api.Operand) string {
	tag := fmt.Sprintf(":%%%d", o.Tag)
	switch {
	case o.Kind == api.None:
		return "_"
	case o.Kind == api.Vreg:
		return fmt.Sprintf("%%%d", o.N)
	case o.Kind == api.Imm:
		return fmt.Sprint(o.N)
	case o.Kind == api.Slot:
		return fmt.Sprintf("#%d", o.N) + tag
	case o.Kind == api.Preg && o.Class == api.ClassG:
		return fmt.Sprintf("$g%d", o.N) + tag
	case o.Kind == api.Preg && o.Class == api.ClassX:
		return fmt.Sprintf("$x%d", o.N) + tag
	case o.Kind == api.Preg:
		return tag
	}
	return "?"
}

// modelOperands are operands' texts.
func modelOperands(list []api.Operand) []string {
	var texts []string
	for _, o := range list {
		texts = append(texts, modelOperand(o))
	}
	return texts
}

// modelInstr is an instruction's text; its Name must be of bytes that are as they are between quotes.
func modelInstr(i api.Instr) string {
	text, ok := names()[i.Op]
	if !ok {
		text = "?"
	}
	if i.Dst.Kind != api.None {
		text = modelOperand(i.Dst) + " = " + text
	}
	row := modelOperands(i.Args)
	if i.Op == api.OpCall {
		return text + ` "` + i.Name + `"(` + strings.Join(row, ", ") + ")"
	}
	if i.Op == api.OpBr || i.Op == api.OpBrif {
		row = append(row, i.Labels...)
	}
	if len(row) > 0 {
		text += " " + strings.Join(row, ", ")
		if i.Off != 0 && (i.Op == api.OpLoad || i.Op == api.OpStore) {
			text += fmt.Sprintf(" + %d", i.Off)
		}
	}
	if i.Op != api.OpSwitch {
		return text
	}
	labels := append(slices.Clone(i.Labels), make([]string, len(i.Cases)+1)...)
	var to []string
	for at, n := range i.Cases {
		to = append(to, fmt.Sprintf("%d: %s", n, labels[at]))
	}
	return text + " [" + strings.Join(append(to, "else: "+labels[len(i.Cases)]), ", ") + "]"
}

// modelBlock is a block's text, with its head alone, if that is asked for.
func modelBlock(b api.Block, headAlone bool) string {
	text := b.Label
	if b.Edge {
		text = "edge " + text
	}
	if len(b.In) > 0 {
		text += " [" + strings.Join(modelOperands(b.In), ", ") + "]"
	}
	text += ":"
	if headAlone {
		return text
	}
	lines := []string{text}
	for _, i := range b.Code {
		lines = append(lines, "  "+modelInstr(i)+";")
	}
	return strings.Join(lines, "\n") + "\n"
}

// modelFunc is a function's text.
func modelFunc(f api.Func) string {
	text := map[bool]string{false: "func ", true: "machine "}[f.Machine]
	text += f.Name + "(" + strings.Join(modelOperands(f.Params), ", ") + ") {\n"
	if len(f.Regs) > 0 {
		words := []string{"regs"}
		for _, r := range f.Regs {
			letter := map[int]string{api.ClassG: "g", api.ClassX: "x"}[r.Class]
			words = append(words, fmt.Sprintf("%%%d:%s", r.ID, letter))
		}
		text += strings.Join(words, " ") + ";\n"
	}
	for _, b := range f.Blocks {
		text += modelBlock(b, false)
	}
	return text + "}\n"
}

// TestOperandModel: at operands of all kinds, classes, numbers and tags.
func TestOperandModel(t *testing.T) {
	kinds := append(noKinds(), api.None, api.Vreg, api.Preg, api.Slot, api.Imm)
	classes := append(noClasses(), api.ClassG, api.ClassX)
	for _, kind := range kinds {
		for _, class := range classes {
			for n := range numbers() {
				for tag := range numbers() {
					o := api.Operand{Kind: kind, Class: class, N: n, Tag: tag}
					same(t, Operand(o), modelOperand(o))
				}
			}
		}
	}
}

// instrs are instructions of each operation, and of none, with each of some choices of all else.
func instrs() []api.Instr {
	var all []api.Instr
	for _, o := range everyOp() {
		for _, dst := range []api.Operand{nothing(), vreg(1), preg(0, 2, 3), {Kind: 5}} {
			for _, args := range [][]api.Operand{nil, {vreg(4)}, {imm(-5), slot(6, 7)}, {preg(1, 8, 9), nothing(), vreg(10)}} {
				for _, labels := range [][]string{nil, {"a"}, {"b", "p.q"}, {"", "c", "d"}} {
					for _, cases := range [][]int{nil, {0}, {-1, 12}, {1, 2, 3}} {
						for _, off := range []int{0, -8, 8} {
							all = append(all, api.Instr{Op: o, Dst: dst, Args: args, Name: "f g", Off: off, Labels: labels, Cases: cases})
						}
					}
				}
			}
		}
	}
	return all
}

// TestInstrModel: at instructions with all choices of what they have.
func TestInstrModel(t *testing.T) {
	for _, i := range instrs() {
		same(t, Instr(i), modelInstr(i))
	}
}

// TestFuncModel: at blocks and functions of many of these instructions, and their heads.
func TestFuncModel(t *testing.T) {
	all := instrs()
	operands := [][]api.Operand{nil, {preg(0, 1, 2)}, {slot(3, 4), nothing()}, {vreg(5), imm(6), {Kind: -1}}}
	regs := [][]api.Reg{nil, {{ID: 1}}, {{ID: 2, Class: 1}, {ID: 3, Class: 2}}, {{ID: -4, Class: -1}, {ID: 5}, {ID: 6, Class: 1}}}
	var blocks []api.Block
	for at := range 256 {
		size := at % 7
		first := at * 11
		b := api.Block{Label: fmt.Sprintf("b%d", at), Edge: at%2 == 1, In: operands[at/2%4], Code: all[first : first+size : first+size]}
		same(t, Head(b), modelBlock(b, true))
		same(t, Block(b), modelBlock(b, false))
		blocks = append(blocks, b)
	}
	for at := range 256 {
		size := at % 5
		f := api.Func{Machine: at%2 == 1, Name: fmt.Sprintf("f%d", at), Params: operands[at/2%4], Regs: regs[at/8%4], Blocks: blocks[at/2 : at/2+size]}
		same(t, Func(f), modelFunc(f))
	}
}

// TestFuncLong: what is beyond the language's limits is told, too, however long.
func TestFuncLong(t *testing.T) {
	f := api.Func{Name: strings.Repeat("n", 100)}
	for n := range 2000 {
		f.Params = append(f.Params, vreg(n))
		f.Regs = append(f.Regs, api.Reg{ID: n, Class: n % 2})
	}
	for n := range 100 {
		b := api.Block{Label: strings.Repeat("l", n)}
		for m := range 100 {
			b.Code = append(b.Code, api.Instr{Op: api.OpCall, Name: strings.Repeat("c", m), Args: f.Params[:m]})
		}
		f.Blocks = append(f.Blocks, b)
	}
	text := Func(f)
	if text != modelFunc(f) {
		t.Error("a long function is told otherwise")
	}
	if len(text) < 1<<20 {
		t.Error("the function is short:", len(text))
	}
}

// spacious is a function, all lists of which have room behind their ends, in which there are other elements.
func spacious() api.Func {
	other := preg(1, 77, 78)
	all := func(list []api.Operand) []api.Operand { return roomy(other, list...) }
	f := machine()
	f.Blocks = append(f.Blocks, loop().Blocks...)
	f.Blocks = append(f.Blocks, api.Block{Label: "z", Code: []api.Instr{
		{Op: api.OpBrif, Labels: []string{"a", "b"}},
		{Op: api.OpBrif, Args: []api.Operand{vreg(1), vreg(2)}, Labels: []string{"a"}},
		{Op: api.OpBrif, Args: []api.Operand{vreg(1)}},
		{Op: api.OpBr, Args: []api.Operand{vreg(1)}, Labels: []string{"a", "b", "c"}},
		{Op: api.OpSwitch, Args: []api.Operand{vreg(1)}, Cases: []int{1, 2}, Labels: []string{"a"}},
		{Op: api.OpSwitch, Cases: []int{1}},
		{Op: api.OpLoad, Off: 3},
		{Op: 99, Dst: vreg(1)},
	}})
	f.Params = all(f.Params)
	f.Regs = roomy(api.Reg{ID: 79, Class: 1}, f.Regs...)
	for b := range f.Blocks {
		block := &f.Blocks[b]
		block.In = all(block.In)
		for i := range block.Code {
			instr := &block.Code[i]
			instr.Args = all(instr.Args)
			instr.Labels = roomy("behind", instr.Labels...)
			instr.Cases = roomy(80, instr.Cases...)
		}
		block.Code = roomy(api.Instr{Op: api.OpSub}, block.Code...)
	}
	f.Blocks = roomy(api.Block{Label: "behind"}, f.Blocks...)
	return f
}

// whole is a copy of a value that shares nothing with it, in which the lists are as long as they have room.
func whole(v reflect.Value) reflect.Value {
	out := reflect.New(v.Type()).Elem()
	switch v.Kind() {
	case reflect.Struct:
		for i := range v.NumField() {
			out.Field(i).Set(whole(v.Field(i)))
		}
	case reflect.Slice:
		v = v.Slice(0, v.Cap())
		out.Set(reflect.MakeSlice(v.Type(), v.Len(), v.Len()))
		for i := range v.Len() {
			out.Index(i).Set(whole(v.Index(i)))
		}
	default:
		out.Set(v)
	}
	return out
}

// spaciousText is the text of the spacious function: those of the two that it is made of, and of the block behind them.
func spaciousText() string {
	return strings.Replace(machineText, "}\n", "", 1) + strings.SplitN(strings.TrimSuffix(loopText, "}\n"), ";\n", 2)[1] + `z:
  brif a, b;
  brif %1, %2, a;
  brif %1;
  br %1, a, b, c;
  switch %1 [1: a, 2: , else: ];
  switch [1: , else: ];
  load;
  %1 = ?;
}
`
}

// TestUntouched: nothing that was handed in is changed, nor what lies behind the lists' lengths, nor is that told (R3).
func TestUntouched(t *testing.T) {
	f := spacious()
	was := whole(reflect.ValueOf(f)).Interface()
	asIs := func(what string) {
		t.Helper()
		if !reflect.DeepEqual(whole(reflect.ValueOf(f)).Interface(), was) {
			t.Fatal("changed by", what)
		}
	}
	for _, b := range f.Blocks {
		for _, i := range b.Code {
			same(t, Instr(i), modelInstr(strict(i)))
			asIs("Instr of " + Instr(i))
		}
		Head(b)
		asIs("Head of " + b.Label)
		Block(b)
		asIs("Block of " + b.Label)
	}
	same(t, Func(f), spaciousText())
	asIs("Func")
}

// strict is an instruction whose lists have no room behind their ends; its Name is as it stands between quotes.
func strict(i api.Instr) api.Instr {
	i.Args = slices.Clip(i.Args)
	i.Labels = slices.Clip(i.Labels)
	i.Cases = slices.Clip(i.Cases)
	i.Name = strings.ReplaceAll(i.Name, "\t", `\t`)
	return i
}

// TestBranchRoom: the labels of br and brif are not laid behind Args, in the room that these have.
func TestBranchRoom(t *testing.T) {
	for _, o := range []int{api.OpBr, api.OpBrif} {
		room := []api.Operand{vreg(1), vreg(2), vreg(3), vreg(4)}
		names := []string{"a", "b", "c", "d"}
		same(t, Instr(api.Instr{Op: o, Args: room[:1], Labels: names[:2]}), map[int]string{api.OpBr: "br", api.OpBrif: "brif"}[o]+" %1, a, b")
		if !slices.Equal(room, []api.Operand{vreg(1), vreg(2), vreg(3), vreg(4)}) {
			t.Error("the Args' room was written to:", room)
		}
		if !slices.Equal(names, []string{"a", "b", "c", "d"}) {
			t.Error("the Labels' room was written to:", names)
		}
	}
}

// TestSwitchRoom: a label that lies behind the end of Labels is not told.
func TestSwitchRoom(t *testing.T) {
	labels := []string{"a", "b", "c"}
	cases := []int{1, 2, 3}
	for has := range 4 {
		for many := range 4 {
			i := api.Instr{Op: api.OpSwitch, Labels: labels[:has], Cases: cases[:many]}
			same(t, Instr(i), modelInstr(strict(i)))
		}
	}
	same(t, Instr(api.Instr{Op: api.OpSwitch, Labels: labels[:1], Cases: cases[:1]}), "switch [1: a, else: ]")
}

// TestNotKept: what is told of a function is not kept for the next time: what was changed meanwhile is seen.
func TestNotKept(t *testing.T) {
	f := loop()
	same(t, Func(f), loopText)
	i := &f.Blocks[0].Code[0]
	first := Instr(*i)
	i.Args[0] = vreg(9)
	same(t, Instr(*i), "%2 = load %9 + -8")
	same(t, Func(f), strings.Replace(loopText, "load %1", "load %9", 1))
	same(t, first, "%2 = load %1 + -8")
}

// TestAlone: texts that are made at the same time do not get into each other.
func TestAlone(t *testing.T) {
	var all sync.WaitGroup
	for n := range 8 {
		all.Go(func() {
			for range 200 {
				if Func(loop()) != loopText || Func(machine()) != machineText || Vreg(n) != "%"+strconv.Itoa(n) {
					t.Error("told otherwise at the same time")
					return
				}
			}
		})
	}
	all.Wait()
}
