package unit

import (
	"fmt"
	"math"
	"reflect"
	"slices"
	"strings"
	"sync"
	"testing"

	"dyehouse/api"
	"dyehouse/fault"
	"dyehouse/ir"
	"dyehouse/lex"
	"dyehouse/parse"
)

const (
	least    = math.MinInt64
	greatest = math.MaxInt64
	// tooGreat is 2^63, of which layer 9 makes a token.
	tooGreat = "9223372036854775808"
)

func reg(class, n int) api.Loc { return api.Loc{Kind: api.Preg, Class: class, N: n} }
func slot(n int) api.Loc       { return api.Loc{Kind: api.Slot, N: n} }
func seg(v, from, to int, at api.Loc) api.Seg {
	return api.Seg{V: v, From: from, To: to, At: at}
}

// machine is a target, of each class how many registers there are, and which ones a call spoils.
func machine(g int, spoiltG []int, x int, spoiltX []int, slots int) api.Target {
	return api.Target{Regs: [2]int{g, x}, Clobber: [2][]int{spoiltG, spoiltX}, Slots: slots}
}

// usual is layer 13's usual target, by hand.
func usual() api.Target {
	return machine(8, []int{0, 1, 2, 3}, 4, []int{0, 1}, 1024)
}

// plainFunc is the function of func f() { }.
func plainFunc() api.Func {
	return api.Func{Name: "f"}
}

// unitOf is a unit without an allocation.
func unitOf(m api.Target, f api.Func) api.Unit {
	return api.Unit{Target: m, Func: f}
}

// allocated is a unit with an allocation.
func allocated(m api.Target, f api.Func, slots int, segs ...api.Seg) api.Unit {
	return api.Unit{Target: m, Func: f, Has: true, Alloc: api.Alloc{Slots: slots, Segs: segs}}
}

// outcome is what is answered: a unit; or what is wrong, where, and within what.
type outcome struct {
	u    api.Unit
	path string
	code api.Code
	at   int
}

// short is a text, as a test's message has it.
func short(text string) string {
	return fmt.Sprintf("%.400q", text)
}

// ofText is what Text answers, held against what is promised of any answer: what is wrong is so within one part, and there
// is a zero unit beside it.
func ofText(t *testing.T, text string) outcome {
	t.Helper()
	u, err := Text(text)
	if err == nil {
		return outcome{u: u}
	}
	if !reflect.ValueOf(u).IsZero() {
		t.Fatalf("%s: beside %v there is %v", short(text), err, u)
	}
	o := outcome{path: strings.Join(fault.Path(err), "/"), code: fault.Of(err), at: fault.At(err)}
	if o.code == api.OK || err != fault.In(o.path, fault.New(o.code, o.at)) {
		t.Fatalf("%s: %v is not made as 5.1 says", short(text), err)
	}
	return o
}

// wants holds what Text answers of a text against what it must be.
func wants(t *testing.T, text string, want outcome) {
	t.Helper()
	got := ofText(t, text)
	if !ir.SameUnit(got.u, want.u) || got.path != want.path || got.code != want.code || got.at != want.at {
		t.Errorf("%s:\nis   %.1000s\nwant %.1000s", short(text), fmt.Sprintf("%+v", got), fmt.Sprintf("%+v", want))
	}
}

// isRight: the text is that unit's.
func isRight(t *testing.T, text string, u api.Unit) {
	t.Helper()
	wants(t, text, outcome{u: u})
}

// unmarked is a text without its mark ^, and the place of what is behind the mark, and behind blanks there.
func unmarked(t *testing.T, marked string) (string, int) {
	t.Helper()
	ahead, behind, ok := strings.Cut(marked, "^")
	if !ok {
		t.Fatalf("there is no mark in %q", marked)
	}
	return ahead + behind, len(ahead) + len(behind) - len(strings.TrimLeft(behind, " "))
}

// isWrong: the texts are no units', of that code at the mark, within that part.
func isWrong(t *testing.T, part string, code api.Code, all ...string) {
	t.Helper()
	for _, marked := range all {
		text, at := unmarked(t, marked)
		wants(t, text, outcome{path: part, code: code, at: at})
	}
}

// tokensOf is the tokens of a text, with which layer 9 finds nothing wrong.
func tokensOf(t *testing.T, text string) []api.Token {
	t.Helper()
	l, err := lex.All(text)
	if err != nil {
		t.Fatalf("lex.All(%s): %v", short(text), err)
	}
	return l
}

// targets are targets' texts, and these: without registers that a call spoils, with one, with several, of one class and of
// both, in any order, twice; the numbers 0, 1 and the greatest ones; also such as no machine has.
func targets() map[string]api.Target {
	return map[string]api.Target{
		"target g 0 x 0 slots 0;":                                  {},
		"target g 1 x 0 slots 0;":                                  machine(1, nil, 0, nil, 0),
		"target g 0 x 1 slots 0;":                                  machine(0, nil, 1, nil, 0),
		"target g 0 x 0 slots 1;":                                  machine(0, nil, 0, nil, 1),
		"target g 8 x 4 slots 1024;":                               machine(8, nil, 4, nil, 1024),
		"target g 17 x 99 slots 4097;":                             machine(17, nil, 99, nil, 4097),
		"target g 9223372036854775807 x 2 slots 3;":                machine(greatest, nil, 2, nil, 3),
		"target g 1 x 9223372036854775807 slots 3;":                machine(1, nil, greatest, nil, 3),
		"target g 1 x 2 slots 9223372036854775807;":                machine(1, nil, 2, nil, greatest),
		"target g 3 x 0 slots 5 clobber $g0;":                      machine(3, []int{0}, 0, nil, 5),
		"target g 3 x 0 slots 5 clobber $g2;":                      machine(3, []int{2}, 0, nil, 5),
		"target g 0 x 3 slots 5 clobber $x0;":                      machine(0, nil, 3, []int{0}, 5),
		"target g 0 x 3 slots 5 clobber $x1;":                      machine(0, nil, 3, []int{1}, 5),
		"target g 0 x 0 slots 0 clobber $g2147483647;":             machine(0, []int{2147483647}, 0, nil, 0),
		"target g 0 x 0 slots 0 clobber $x2147483647;":             machine(0, nil, 0, []int{2147483647}, 0),
		"target g 8 x 4 slots 9 clobber $g0 $g1 $g5;":              machine(8, []int{0, 1, 5}, 4, nil, 9),
		"target g 8 x 4 slots 9 clobber $x0 $x3;":                  machine(8, nil, 4, []int{0, 3}, 9),
		"target g 8 x 4 slots 9 clobber $g0 $x0;":                  machine(8, []int{0}, 4, []int{0}, 9),
		"target g 8 x 4 slots 9 clobber $x0 $g0;":                  machine(8, []int{0}, 4, []int{0}, 9),
		"target g 8 x 4 slots 9 clobber $x2 $g3 $x1 $g0 $x3 $g2;":  machine(8, []int{3, 0, 2}, 4, []int{2, 1, 3}, 9),
		"target g 8 x 4 slots 9 clobber $g3 $g1 $g1;":              machine(8, []int{3, 1, 1}, 4, nil, 9),
		"target g 8 x 4 slots 9 clobber $x1 $g1 $x1 $g1;":          machine(8, []int{1, 1}, 4, []int{1, 1}, 9),
		"target g 0 x 0 slots 0 clobber $g9 $x8;":                  machine(0, []int{9}, 0, []int{8}, 0),
		"target g 8x 4slots 9clobber$g0$x1$g2;":                    machine(8, []int{0, 2}, 4, []int{1}, 9),
		" target\ng\t8\r\nx 4 slots 9 // ;\nclobber $g0 // $g1\n;": machine(8, []int{0}, 4, nil, 9),
	}
}

// allocs are allocations' texts, and these: of no rows, of one, of several; of rows of one segment and of several, of
// registers of each class and of slots; two rows of one virtual register; also such as no function has.
func allocs() map[string]api.Alloc {
	of := func(slots int, segs ...api.Seg) api.Alloc { return api.Alloc{Slots: slots, Segs: segs} }
	g1, x2, s3 := reg(api.ClassG, 1), reg(api.ClassX, 2), slot(3)
	return map[string]api.Alloc{
		"alloc slots 0 { }":                                               of(0),
		"alloc slots 1{}":                                                 of(1),
		"alloc slots 4097 { }":                                            of(4097),
		"alloc slots 9223372036854775807 { }":                             of(greatest),
		"alloc slots 0 { %0: 0..0 $g0; }":                                 of(0, seg(0, 0, 0, reg(0, 0))),
		"alloc slots 0 { %0: 0..1 $x0; }":                                 of(0, seg(0, 0, 1, reg(1, 0))),
		"alloc slots 0 { %0: 1..0 #0; }":                                  of(0, seg(0, 1, 0, slot(0))),
		"alloc slots 1 { %2: 0..4 $g1; }":                                 of(1, seg(2, 0, 4, g1)),
		"alloc slots 1 { %2: 0..4 $g1, 4..9 #0; }":                        of(1, seg(2, 0, 4, g1), seg(2, 4, 9, slot(0))),
		"alloc slots 1 { %2: 9..4 $x2, 7..7 #3, 0..4 $g1; }":              of(1, seg(2, 9, 4, x2), seg(2, 7, 7, s3), seg(2, 0, 4, g1)),
		"alloc slots 4 { %1: 0..4 $g1; %2: 0..4 $x2; }":                   of(4, seg(1, 0, 4, g1), seg(2, 0, 4, x2)),
		"alloc slots 4 { %2: 0..4 $g1; %1: 0..4 $x2; %0: 3..5 #3; }":      of(4, seg(2, 0, 4, g1), seg(1, 0, 4, x2), seg(0, 3, 5, s3)),
		"alloc slots 4 { %1: 0..4 $g1; %1: 4..9 $x2; }":                   of(4, seg(1, 0, 4, g1), seg(1, 4, 9, x2)),
		"alloc slots 4 { %1: 0..4 #3; %1: 0..4 #3; }":                     of(4, seg(1, 0, 4, s3), seg(1, 0, 4, s3)),
		"alloc slots 4 { %1: 0..4 #3, 0..4 #3; }":                         of(4, seg(1, 0, 4, s3), seg(1, 0, 4, s3)),
		"alloc slots 4 { %1: 0..4 $g1; %2: 0..1 #3; %1: 4..5 $x2; }":      of(4, seg(1, 0, 4, g1), seg(2, 0, 1, s3), seg(1, 4, 5, x2)),
		"alloc slots 4 { %1: 0..4 $g1, 4..5 #3; %2: 0..1 #3, 1..2 $x2; }": of(4, seg(1, 0, 4, g1), seg(1, 4, 5, s3), seg(2, 0, 1, s3), seg(2, 1, 2, x2)),
		"alloc slots 0 { %2147483647: 0..1 $g2147483647, 1..2 $x2147483647, 2..3 #2147483647; }": of(0, seg(2147483647, 0, 1, reg(0, 2147483647)),
			seg(2147483647, 1, 2, reg(1, 2147483647)), seg(2147483647, 2, 3, slot(2147483647))),
		"alloc slots 0 { %5: 9223372036854775807..0 $g1, 1..9223372036854775807 $g1, 9223372036854775807..9223372036854775807 $g1; }": of(0,
			seg(5, greatest, 0, g1), seg(5, 1, greatest, g1), seg(5, greatest, greatest, g1)),
		"alloc slots 4{%1:0..4$g1,4..5#3;%2:0 .. 1$x2;}":                     of(4, seg(1, 0, 4, g1), seg(1, 4, 5, s3), seg(2, 0, 1, x2)),
		"\nalloc // {\nslots\t4 {\r\n%1 :// 7..8 $g1\n0 ..\n4 $g1 ; // }\n}": of(4, seg(1, 0, 4, g1)),
	}
}

// samples are functions' texts that have all that there is in them.
func samples() []string {
	return []string{
		"func f() { }",
		"machine g() { }",
		`func f(%1, %2, _, 4) { regs %1:g %2:x %3:g; a: %3 = load %2 + -8; %3 = add %3, 1; store %3, %2 + 16; brif %3, b, c; ` +
			`b: %1 = call "put \"\n\""(%3, 5, -7); call ""(); br edge; edge: switch %1 [1: a, -9223372036854775808: b, else: add]; c: add: ret (1 + 2); }`,
		`machine g($g1:%1, $x2:%2, #3:%4) { regs [$g1:%1]: move $g1:%1; $x2:%2 = reload #3:%4; #3:%4 = spill $g1:%1; swap $g1:%1, #3:%4; br regs.a; ` +
			`edge regs.a [$g1:%1, #3:%4]: br a; a: ret 9223372036854775807; }`,
	}
}

// funcs are functions' texts, and these, which layer 16 reads.
func funcs(t *testing.T) map[string]api.Func {
	t.Helper()
	all := map[string]api.Func{}
	for _, text := range samples() {
		f, err := parse.Text(text)
		if err != nil {
			t.Fatalf("parse.Text(%s): %v", short(text), err)
		}
		all[text] = f
	}
	return all
}

// TestExample: the chapter's example.
func TestExample(t *testing.T) {
	isWrong(t, "alloc", api.ErrSyntax, "func f() { } alloc slots 1 { %2: 0 ^}", "func f() { } alloc slots 1 { %2: 0^; }", "func f() { } alloc slots 1 { %2: 0 ^$g1; }")
}

// TestTextByHand: units of both forms, written out by hand.
func TestTextByHand(t *testing.T) {
	isRight(t, "func f() { }", api.Unit{Target: usual(), Func: plainFunc()})
	isRight(t, "machine f() { }", api.Unit{Target: usual(), Func: api.Func{Machine: true, Name: "f"}})
	ret := api.Func{
		Name: "f", Regs: []api.Reg{{ID: 0}}, Params: []api.Operand{{Kind: api.Vreg}},
		Blocks: []api.Block{{Label: "a", Code: []api.Instr{{Op: api.OpRet, Args: []api.Operand{{Kind: api.Vreg}}}}}},
	}
	text := "target g 3 x 1 slots 2 clobber $g0;\nfunc f(%0) {\nregs %0:g;\na:\n  ret %0;\n}\nalloc slots 1 {\n  %0: 0..1 $g1, 1..3 #0;\n}\n"
	isRight(t, text, api.Unit{
		Target: api.Target{Regs: [2]int{3, 1}, Clobber: [2][]int{{0}, nil}, Slots: 2},
		Func:   ret,
		Has:    true,
		Alloc: api.Alloc{Slots: 1, Segs: []api.Seg{
			{V: 0, From: 0, To: 1, At: api.Loc{Kind: api.Preg, Class: api.ClassG, N: 1}},
			{V: 0, From: 1, To: 3, At: api.Loc{Kind: api.Slot, N: 0}},
		}},
	})
}

// TestText: functions of both forms alone, with a target ahead, with an allocation behind, and with both.
func TestText(t *testing.T) {
	for function, f := range funcs(t) {
		isRight(t, function, unitOf(usual(), f))
		for target, m := range targets() {
			isRight(t, target+function, unitOf(m, f))
			for alloc, a := range allocs() {
				isRight(t, target+"\n"+function+" "+alloc, api.Unit{Target: m, Func: f, Has: true, Alloc: a})
			}
		}
		for alloc, a := range allocs() {
			isRight(t, function+alloc, api.Unit{Target: usual(), Func: f, Has: true, Alloc: a})
		}
	}
}

// TestTextZero: what doesn't stand there is zero: of no alloc, of no clobber, of no rows, of a slot's class.
func TestTextZero(t *testing.T) {
	u, err := Text("target g 0 x 0 slots 0; func f() { }")
	if err != nil || !reflect.ValueOf(u.Target).IsZero() || u.Has || !reflect.ValueOf(u.Alloc).IsZero() || u.Func.Machine || len(u.Func.Blocks) > 0 {
		t.Errorf("%+v, %v", u, err)
	}
	u, err = Text("func f() { } alloc slots 0 { }")
	if err != nil || !u.Has || !reflect.ValueOf(u.Alloc).IsZero() {
		t.Errorf("%+v, %v", u, err)
	}
	u, err = Text("func f() { } alloc slots 0 { %0: 0..0 $x5, 0..0 #0; }")
	if want := []api.Seg{{At: api.Loc{Kind: api.Preg, Class: api.ClassX, N: 5}}, {At: api.Loc{Kind: api.Slot}}}; err != nil || !slices.Equal(u.Alloc.Segs, want) {
		t.Errorf("%+v, %v", u, err)
	}
}

// TestTextUsual: where no target is told there is the usual one, whatever is done to the one of another call.
func TestTextUsual(t *testing.T) {
	for range 3 {
		u, err := Text("func f() { }")
		if err != nil || !ir.SameTarget(u.Target, usual()) {
			t.Fatalf("%+v, %v", u.Target, err)
		}
		u.Target.Regs[0], u.Target.Slots = 99, 99
		for class := range u.Target.Clobber {
			for n := range u.Target.Clobber[class] {
				u.Target.Clobber[class][n] = 99
			}
		}
	}
	isRight(t, "target g 1 x 1 slots 1; func f() { }", unitOf(machine(1, nil, 1, nil, 1), plainFunc()))
	isRight(t, "func f() { } alloc slots 0 { }", allocated(usual(), plainFunc(), 0))
}

// TestTextNumbers: each number stands in its place.
func TestTextNumbers(t *testing.T) {
	for _, n := range []int{0, 1, 2, 9, 10, 42, 4096, 1<<31 - 1, 1 << 31, 1 << 32, greatest - 1, greatest} {
		isRight(t, fmt.Sprintf("target g %d x 5 slots 6; func f() { }", n), unitOf(machine(n, nil, 5, nil, 6), plainFunc()))
		isRight(t, fmt.Sprintf("target g 4 x %d slots 6; func f() { }", n), unitOf(machine(4, nil, n, nil, 6), plainFunc()))
		isRight(t, fmt.Sprintf("target g 4 x 5 slots %d; func f() { }", n), unitOf(machine(4, nil, 5, nil, n), plainFunc()))
		isRight(t, fmt.Sprintf("func f() { } alloc slots %d { }", n), allocated(usual(), plainFunc(), n))
		isRight(t, fmt.Sprintf("func f() { } alloc slots 7 { %%1: %d..8 $g9; }", n), allocated(usual(), plainFunc(), 7, seg(1, n, 8, reg(0, 9))))
		isRight(t, fmt.Sprintf("func f() { } alloc slots 7 { %%1: 8..%d #9; }", n), allocated(usual(), plainFunc(), 7, seg(1, 8, n, slot(9))))
		if n > api.MaxID {
			continue
		}
		isRight(t, fmt.Sprintf("target g 4 x 5 slots 6 clobber $g%d; func f() { }", n), unitOf(machine(4, []int{n}, 5, nil, 6), plainFunc()))
		isRight(t, fmt.Sprintf("target g 4 x 5 slots 6 clobber $g3 $x%d $g3; func f() { }", n), unitOf(machine(4, []int{3, 3}, 5, []int{n}, 6), plainFunc()))
		isRight(t, fmt.Sprintf("func f() { } alloc slots 7 { %%%d: 8..9 $x2, 9..10 $g3; %%4: 5..6 #5; }", n), allocated(usual(), plainFunc(), 7,
			seg(n, 8, 9, reg(1, 2)), seg(n, 9, 10, reg(0, 3)), seg(4, 5, 6, slot(5))))
		isRight(t, fmt.Sprintf("func f() { } alloc slots 7 { %%1: 8..9 $x%d, 9..10 $g%d, 10..11 #%d; }", n, n, n), allocated(usual(), plainFunc(), 7,
			seg(1, 8, 9, reg(1, n)), seg(1, 9, 10, reg(0, n)), seg(1, 10, 11, slot(n))))
	}
}

// TestTextMany: very many registers that a call spoils, rows, and segments of one row.
func TestTextMany(t *testing.T) {
	const many = 2500
	m := machine(1, nil, 2, nil, 3)
	target, rows, row := "target g 1 x 2 slots 3 clobber", "", "%7: "
	var apart, along []api.Seg
	for n := range many {
		target += fmt.Sprintf(" $%c%d", "gx"[n%2], n)
		m.Clobber[n%2] = append(m.Clobber[n%2], n)
		rows += fmt.Sprintf("%%%d:%d..2#%d;", n, n, n)
		apart = append(apart, seg(n, n, 2, slot(n)))
		along = append(along, seg(7, 1, n, reg(n%2, n)))
		if n > 0 {
			row += ","
		}
		row += fmt.Sprintf("1..%d $%c%d", n, "gx"[n%2], n)
	}
	isRight(t, target+"; func f() { }", unitOf(m, plainFunc()))
	isRight(t, "func f() { } alloc slots 9 { "+rows+" }", allocated(usual(), plainFunc(), 9, apart...))
	isRight(t, "func f() { } alloc slots 9 { "+row+"; }", allocated(usual(), plainFunc(), 9, along...))
}

// TestTextBeginning: a text that begins with neither a target nor a function is wrong as a function's.
func TestTextBeginning(t *testing.T) {
	isWrong(t, "func", api.ErrSyntax, "^", " ^", "// func f() { }\n^", "^alloc slots 1 { }", "^alloc slots 1 { } func f() { }", "^f() { }", "^clobber $g1;", "^slots 9;",
		"^g 8 x 4 slots 9; func f() { }", "^;", "^; func f() { }", "^{ func f() { } }", "^targets g 8 x 4 slots 9; func f() { }", "^\"target\" g 8 x 4 slots 9; func f() { }",
		"^_target g 8 x 4 slots 9;", "^functions f() { }", "^7", "^-7", "^"+tooGreat, "^%1: 0..4 $g1;", "^$g1", "^#1", "^..", "^.", "^unit", "^regs %1:g;", "^ret 1;", "^:", "^}")
}

// TestTextTarget: what targets' texts do not go on with, up to their semicolons.
func TestTextTarget(t *testing.T) {
	for _, marked := range []string{
		"target^", "target^;", "target^ 8", "target^ x 4 g 8 slots 9;", "target^ slots 9;", "target^ clobber $g1;", "target^: ret 1;", "target^() { }", "target^ g8 x 4 slots 9;",
		"target^ \"g\" 8 x 4 slots 9;", "target^ target g 8 x 4 slots 9;", "target^ $g8 x 4 slots 9;", "target^ 8 g 4 x 9 slots;", "target^ = g 8;", "target^, g 8 x 4 slots 9;",
		"target g^", "target g^;", "target g^ x 4 slots 9;", "target g^ %8 x 4 slots 9;", "target g^ $g8 x 4 slots 9;", "target g^ #8 x 4 slots 9;", "target g^ \"8\" x 4 slots 9;",
		"target g^: 8 x 4 slots 9;", "target g^ (8) x 4 slots 9;", "target g^ +8 x 4 slots 9;", "target g^ g 8;", "target g^, x 4;", "target g^ _",
		"target g 8^", "target g 8^; func f() { }", "target g 8^ slots 9;", "target g 8^, x 4 slots 9;", "target g 8^ 4 slots 9;", "target g 8^ g 4 slots 9;", "target g 8^ x4 slots 9;",
		"target g 8^ 9 x 4 slots 9;", "target g 8^ clobber $g1;", "target g 8^ \"x\" 4 slots 9;", "target g 8^..9 x 4 slots 9;", "target g 8^ + 1 x 4 slots 9;", "target g 8^ $x4 slots 9;",
		"target g 8 x^", "target g 8 x^;", "target g 8 x^ slots 9;", "target g 8 x^ $x4 slots 9;", "target g 8 x^ %4 slots 9;", "target g 8 x^ x 4 slots 9;",
		"target g 8 x 4^", "target g 8 x 4^; func f() { }", "target g 8 x 4^ clobber $g1;", "target g 8 x 4^ 9;", "target g 8 x 4^, slots 9;", "target g 8 x 4^ slot 9;", "target g 8 x 4^ #9;",
		"target g 8 x 4^ x 4 slots 9;", "target g 8 x 4^ slots9;", "target g 8 x 4^ \"slots\" 9;",
		"target g 8 x 4 slots^", "target g 8 x 4 slots^; func f() { }", "target g 8 x 4 slots^ clobber $g1;", "target g 8 x 4 slots^ #9;", "target g 8 x 4 slots^ slots 9;", "target g 8 x 4 slots^ %9;",
		"target g 8 x 4 slots 9^", "target g 8 x 4 slots 9^ func f() { }", "target g 8 x 4 slots 9^, clobber $g1;", "target g 8 x 4 slots 9^ $g1;", "target g 8 x 4 slots 9^ 9;",
		"target g 8 x 4 slots 9^: clobber $g1;", "target g 8 x 4 slots 9^ clobbers $g1;", "target g 8 x 4 slots 9^ \"clobber\" $g1;", "target g 8 x 4 slots 9^ { }",
		"target g 8 x 4 slots 9^ alloc slots 1 { }", "target g 8 x 4 slots 9^ g 8;", "target g 8 x 4 slots 9^ }", "target g 8 x 4 slots 9^..;", "target g 8 x 4 slots 9^ " + tooGreat,
	} {
		isWrong(t, "target", api.ErrSyntax, marked, marked+" func f() { }", marked+" } ) "+tooGreat)
	}
}

// TestTextClobber: what does not stand behind clobber.
func TestTextClobber(t *testing.T) {
	for _, marked := range []string{
		"^", "^;", "^ #1;", "^ %1;", "^ g;", "^ x1;", "^ g1;", "^ 1;", "^ \"$g1\";", "^, $g1;", "^: $g1;", "^ clobber $g1;", "^ _;", "^ -1;", "^ func f() { }", "^ " + tooGreat, "^ { $g1 };",
		" $g1^", " $g1^ func f() { }", " $g1^, $g2;", " $g1^ #1;", " $g1^ %1;", " $g1^ g;", " $g1^ 2;", " $g1^:%1;", " $g1^ = $g2;", " $g1^..$g2;", " $g1^ clobber $g2;", " $g1^ \"\";",
		" $g1 $x1^", " $g1 $x1^ #1;", " $g1 $x1^, $g2;", " $g1 $x1^ alloc slots 1 { }", " $x1 $x1^ _;", " $x1^}", " $x1 $g1^.;", " $x1^ slots 9;", " $g1^ " + tooGreat, " $g1^ -2;",
	} {
		marked = "target g 8 x 4 slots 9 clobber" + marked
		isWrong(t, "target", api.ErrSyntax, marked, marked+" ) func f() { }")
	}
}

// TestTextBehindTarget: behind a target there must be a function.
func TestTextBehindTarget(t *testing.T) {
	for target := range targets() {
		for _, marked := range []string{"^", "^ ;", "^ target g 8 x 4 slots 9; func f() { }", "^ alloc slots 1 { }", "^ clobber $g1; func f() { }", "^ f() { }", "^ 7", "^ " + tooGreat, "^ %1", "^ slots 9;",
			"^ }", "^ \"func\" f() { }", "^ - func f() { }", "^ x 4 slots 9;", "^ $g1;", "^ unit", "^ functions f() { }", " func^", " func f()^ alloc slots 1 { }", " machine^ (", " func f() {^"} {
			isWrong(t, "func", api.ErrSyntax, target+marked)
		}
	}
}

// TestTextFunc: what a function's text says is within func: with a target ahead and with none, whatever is behind.
func TestTextFunc(t *testing.T) {
	deep := strings.Repeat("(", api.MaxDepth)
	all := map[string]api.Code{
		"func^": api.ErrSyntax, "func target^": api.ErrSyntax, "func f^": api.ErrSyntax, "func f() { a: add %1^; }": api.ErrSyntax, "machine f(^": api.ErrSyntax,
		"func f() {^": api.ErrSyntax, "func f() { a:^": api.ErrSyntax, "func f() { a: ret 1;^": api.ErrSyntax, "func f() { a: ret 1^ }": api.ErrSyntax, "func f() { regs %1^; }": api.ErrSyntax,
		"func f() { a: alloc^ slots 1 { } }": api.ErrSyntax, "func f() { alloc^ slots 1 { } }": api.ErrSyntax, "func f() { target^ g 8 x 4 slots 9; }": api.ErrSyntax, "func f()^;": api.ErrSyntax,
		"func f() { a: clobber^ $g1; }": api.ErrSyntax, "func f() { a: ret ^slots; }": api.ErrSyntax, "func f() { ^%1: 0..4 $g1; }": api.ErrSyntax, "func f() { a: ret 0^..4; }": api.ErrSyntax,
		"func f(^" + tooGreat + ") { }": api.ErrRange, "func f() { a: ret ^" + tooGreat + "; }": api.ErrRange, "func f() { a: load %1 + (2 - ^" + tooGreat + "); }": api.ErrRange,
		"machine f() { a: switch 1 [^" + tooGreat + ": b, else: c]; }": api.ErrRange, "func ^" + tooGreat + "() { }": api.ErrSyntax, "func f() { a: br ^" + tooGreat + "; }": api.ErrSyntax,
		"func f(" + deep + "^(1)" + strings.Repeat(")", api.MaxDepth) + ") { }": api.ErrDepth, "func f() { a: ret " + deep + "^((; }": api.ErrDepth,
	}
	for marked, code := range all {
		isWrong(t, "func", code, marked, "// a remark\n "+marked)
		for target := range targets() {
			isWrong(t, "func", code, target+marked, target+" "+marked)
		}
		if !strings.HasSuffix(marked, "^") {
			isWrong(t, "func", code, marked+" alloc slots 1 { %2: 0 }", marked+" ) }")
		}
	}
}

// TestTextAlloc: what allocations' texts do not go on with, up to their braces.
func TestTextAlloc(t *testing.T) {
	for _, marked := range []string{
		"alloc^", "alloc^;", "alloc^: ret 1;", "alloc^ 1 { }", "alloc^ { }", "alloc^ slot 1 { }", "alloc^ slots1 { }", "alloc^ \"slots\" 1 { }", "alloc^ #1 { }", "alloc^ alloc slots 1 { }",
		"alloc^ f() { }", "alloc^ }", "alloc^ target g 8 x 4 slots 9;", "alloc^, slots 1 { }", "alloc^ 1 slots { }", "alloc^ " + tooGreat,
		"alloc slots^", "alloc slots^ { }", "alloc slots^ #1 { }", "alloc slots^ %1 { }", "alloc slots^ slots 1 { }", "alloc slots^ (1) { }", "alloc slots^ +1 { }", "alloc slots^ \"1\" { }",
		"alloc slots^ _ { }", "alloc slots^: 1 { }", "alloc slots^ = 1 { }", "alloc slots^ $g1 { }", "alloc slots^ .. { }",
		"alloc slots 1^", "alloc slots 1^ }", "alloc slots 1^;", "alloc slots 1^ 2 { }", "alloc slots 1^ [ ]", "alloc slots 1^ ( )", "alloc slots 1^: { }", "alloc slots 1^ %2: 0..4 $g1;",
		"alloc slots 1^ + 1 { }", "alloc slots 1^, 2 { }", "alloc slots 1^ \"\" { }", "alloc slots 1^ " + tooGreat,
		"alloc slots 1 {^", "alloc slots 1 {^ {", "alloc slots 1 {^ ; }", "alloc slots 1 {^ 2: 0..4 $g1; }", "alloc slots 1 {^ $g1: 0..4 $g1; }", "alloc slots 1 {^ #1: 0..4 $g1; }",
		"alloc slots 1 {^ a: 0..4 $g1; }", "alloc slots 1 {^ : 0..4 $g1; }", "alloc slots 1 {^ 0..4 $g1; }", "alloc slots 1 {^ alloc slots 1 { } }", "alloc slots 1 {^ func f() { } }",
		"alloc slots 1 {^ , }", "alloc slots 1 {^ -1: 0..4 $g1; }", "alloc slots 1 {^ " + tooGreat, "alloc slots 1 {^ \"%2\": 0..4 $g1; }", "alloc slots 1 {^ slots 2; }",
	} {
		isWrong(t, "alloc", api.ErrSyntax, "func f() { }"+marked, "func f() { } "+marked+" ) ", "target g 1 x 2 slots 3; machine f() { } // alloc\n"+marked)
	}
}

// TestTextRow: what rows do not go on with, as the first one, and behind others.
func TestTextRow(t *testing.T) {
	for _, marked := range []string{
		"%2^", "%2^;", "%2^ 0..4 $g1;", "%2^ }", "%2^, 0..4 $g1;", "%2^ = 0..4 $g1;", "%2^ %3: 0..4 $g1;", "%2^.. 4 $g1;", "%2^ g: 0..4 $g1;", "%2^ " + tooGreat,
		"%2:^", "%2:^;", "%2:^ }", "%2:^, 0..4 $g1;", "%2:^: 0..4 $g1;", "%2:^ $g1;", "%2:^ #1;", "%2:^ ..4 $g1;", "%2:^ g;", "%2:^ %3;", "%2:^ (0)..4 $g1;", "%2:^ {", "%2:^ \"0\"..4 $g1;", "%2:^ a..b $g1;",
		"%2: 0^", "%2: 0^;", "%2: 0^ }", "%2: 0^ $g1;", "%2: 0^ 4 $g1;", "%2: 0^.4 $g1;", "%2: 0^. . 4 $g1;", "%2: 0^, 4 $g1;", "%2: 0^ - 4 $g1;", "%2: 0^ : 4 $g1;", "%2: 0^ #1;", "%2: 0^ " + tooGreat, "%2: 0^ + 1..4 $g1;",
		"%2: 0..^", "%2: 0..^;", "%2: 0..^ }", "%2: 0..^ $g1;", "%2: 0..^.4 $g1;", "%2: 0..^..4 $g1;", "%2: 0..^ #1;", "%2: 0..^, 4..5 $g1;", "%2: 0..^ a $g1;", "%2: 0..^ %4 $g1;", "%2: 0..^ (4) $g1;", "%2: 0..^ \"4\" $g1;",
		"%2: 0..4^", "%2: 0..4^;", "%2: 0..4^ }", "%2: 0..4^ %1;", "%2: 0..4^, 4..9 #0;", "%2: 0..4^ g1;", "%2: 0..4^ 1;", "%2: 0..4^: $g1;", "%2: 0..4^ _;", "%2: 0..4^..5 $g1;", "%2: 0..4^ \"$g1\";", "%2: 0..4^ = $g1;",
		"%2: 0..4^ -1;", "%2: 0..4^ " + tooGreat, "%2: 0..4^ ($g1);", "%2: 0..4^ + 1 $g1;",
		"%2: 0..4 $g1^", "%2: 0..4 $g1^ }", "%2: 0..4 $g1^:%2;", "%2: 0..4 #1^:%2;", "%2: 0..4 $g1^ $g2;", "%2: 0..4 $g1^ 4..9 #0;", "%2: 0..4 $x1^ %3: 0..4 $g1;", "%2: 0..4 #1^ = %2;", "%2: 0..4 #1^ 2;", "%2: 0..4 #1^..2;",
		"%2: 0..4 $g1^ a;", "%2: 0..4 $g1^ {", "%2: 0..4 $g1^ " + tooGreat, "%2: 0..4 $g1^.5;", "%2: 0..4 $g1^: 0..4 $g1;",
		"%2: 0..4 $g1,^", "%2: 0..4 $g1,^;", "%2: 0..4 $g1,^ }", "%2: 0..4 $g1,^, 4..9 #0;", "%2: 0..4 $g1,^ $g2;", "%2: 0..4 #1,^ %3: 0..4 $g1;", "%2: 0..4 #1,^ %2: 4..9 $g1;", "%2: 0..4 #1,^ ..9 #0;",
		"%2: 0..4 $g1, 4^;", "%2: 0..4 $g1, 4..^;", "%2: 0..4 $g1, 4..9^;", "%2: 0..4 $g1, 4..9^ %2;", "%2: 0..4 $g1, 4..9 #0,^;", "%2: 0..4 $g1, 4..9 #0^", "%2: 0..4 $g1, 4..9 #0^ }", "%2: 0..4 $g1, 4 ^9 #0;",
		"%2: 0..4 $g1;^", "%2: 0..4 $g1;^;", "%2: 0..4 $g1;^ 4..9 #0;", "%2: 0..4 $g1;^, 4..9 #0;", "%2: 0..4 $g1;^ {", "%2: 0..4 $g1;^ alloc", "%2: 0..4 $g1;^ : 4..9 #0;", "%2: 0..4 $g1;^ #0;", "%2: 0..4 $g1;^ " + tooGreat,
	} {
		for _, ahead := range []string{"", "%1: 0..4 $x1; ", "%2: 3..2 #7, 5..5 $g4; ", "%7: 1..2 $g1; %7: 1..2 $g1;"} {
			isWrong(t, "alloc", api.ErrSyntax, "func f() { } alloc slots 1 { "+ahead+marked, "target g 1 x 2 slots 3; machine f() { a: ret 1; } alloc slots 0 {"+ahead+marked+" ) alloc")
		}
	}
}

// TestTextTooGreat: a minus, and 2^63, at each place where a number may stand, and 2^63 where none may.
func TestTextTooGreat(t *testing.T) {
	const f = " func f() { }"
	may := map[string]string{
		"target g ? x 4 slots 9;" + f: "target", "target g 8 x ? slots 9 clobber $g1;" + f: "target", "target g 8 x 4 slots ?;" + f: "target", "target g 8 x 4 slots ? clobber $x1;" + f: "target",
		"target g ?": "target", "target g 8 x ?": "target", "target g 8 x 4 slots ?": "target",
		f + "alloc slots ? { }": "alloc", f + "alloc slots ?": "alloc", f + "alloc slots 1 { %2: ?..4 $g1; }": "alloc", f + "alloc slots 1 { %2: 0..? $g1; }": "alloc", f + "alloc slots 1 { %2: ?": "alloc",
		f + "alloc slots 1 { %2: 0..4 $g1, ?..9 #0; }": "alloc", f + "alloc slots 1 { %2: 0..4 $g1, 4..? #0; }": "alloc", f + "alloc slots 1 { %2: 0..4 $g1; %3: 0..?": "alloc",
		"target g 1 x 2 slots 3;" + f + "alloc slots ? { }": "alloc",
	}
	for place, part := range may {
		put := func(marked string) string { return strings.Replace(place, "?", marked, 1) }
		isWrong(t, part, api.ErrRange, put("^"+tooGreat), put("^"+tooGreat+" "+tooGreat))
		isWrong(t, part, api.ErrSyntax, put("^-1"), put("^- 1"), put("^-0"), put("^-9223372036854775807"), put("^-"+tooGreat), put("^- "+tooGreat), put("^-"), put("^("+tooGreat+")"), put("^(1)"), put("^+1"))
	}
	mayNot := map[string]string{
		"? func f() { }": "func", "target ? g 8": "target", "target ? 8": "target", "target g 8 ?": "target", "target g 8 x 4 ?": "target", "target g 8 x 4 slots 9 ?": "target", "target g 8 x 4 slots 9 clobber ?": "target",
		"target g 8 x 4 slots 9 clobber $g1 ?;": "target", "target g 8 x 4 slots 9; ? func f() { }": "func", f + "?": "unit", f + "alloc ?": "alloc", f + "alloc slots 1 ? { }": "alloc", f + "alloc slots 1 { ? }": "alloc",
		f + "alloc slots 1 { %2 ?": "alloc", f + "alloc slots 1 { %2: 0 ?": "alloc", f + "alloc slots 1 { %2: 0..4 ?": "alloc", f + "alloc slots 1 { %2: 0..4 $g1 ?": "alloc", f + "alloc slots 1 { %2: 0..4 $g1; ?": "alloc",
		f + "alloc slots 1 { } ?": "unit", "func ? f() { }": "func", "func f ? { }": "func", "func f() ? { }": "func", "func f() { ? }": "func",
	}
	for place, part := range mayNot {
		for _, token := range []string{tooGreat, "-" + tooGreat, "-1", "1"} {
			isWrong(t, part, api.ErrSyntax, strings.Replace(place, "?", "^"+token, 1))
		}
	}
}

// TestTextBehind: behind the function there may be an alloc, and behind all there must be the end.
func TestTextBehind(t *testing.T) {
	for _, text := range []string{"func f() { }", "machine f() { a: ret 1; }", "target g 1 x 2 slots 3; func f() { }", "func f() { } alloc slots 1 { }",
		"target g 1 x 2 slots 3 clobber $g0; machine f() { } alloc slots 1 { %2: 0..4 $g1; }", "func alloc() { alloc: br alloc; }"} {
		hasAlloc := strings.Contains(text, "alloc slots")
		for _, behind := range []string{"}", "{", ";", "a", "a:", "func", "func g() { }", "machine g() { }", "target g 1 x 2 slots 3;", "target", "%1", "%2: 0..4 $g1;", "$g1", "#1", "7", "-", "\"a\"", "\"alloc\"", ".", "..",
			"(", "ret 1;", tooGreat, "slots 1 { }", "clobber $g1;", "allocs slots 1 { }", "_alloc", "regs %1:g;", "edge a.b:", "unit", "text", ","} {
			isWrong(t, "unit", api.ErrSyntax, text+"^"+behind, text+" ^"+behind, text+"\n// alloc\n\t^"+behind, text+" ^"+behind+" alloc slots 1 { }", text+" ^"+behind+" "+tooGreat)
		}
		if hasAlloc {
			isWrong(t, "unit", api.ErrSyntax, text+"^alloc slots 1 { }", text+" ^alloc", text+" ^alloc slots "+tooGreat, text+" ^alloc alloc")
		} else {
			isWrong(t, "alloc", api.ErrSyntax, text+"alloc^", text+" alloc^ alloc")
			isWrong(t, "unit", api.ErrSyntax, text+"alloc slots 1 { } ^alloc slots 1 { }")
		}
		want := ofText(t, text)
		for _, behind := range []string{"", " ", "\n", "// }", "// alloc slots 1 { }", "\r\n// a\n// b\n\t"} {
			wants(t, text+behind, want)
		}
	}
}

// TestTextWords: the words that begin something elsewhere are names here, and the names of parts are just words.
func TestTextWords(t *testing.T) {
	for _, word := range []string{"target", "alloc", "clobber", "slots", "g", "x", "func", "machine", "unit", "text", "regs", "edge", "abcdefghijklmnopqrstuvwx"} {
		named := api.Func{Name: word}
		isRight(t, "func "+word+"() { }", unitOf(usual(), named))
		isRight(t, "target g 1 x 2 slots 3; func "+word+"() { }alloc slots 4 { }", allocated(machine(1, nil, 2, nil, 3), named, 4))
		f := api.Func{Machine: true, Name: word, Blocks: []api.Block{
			{Label: word},
			{Label: word, In: []api.Operand{{Kind: api.Vreg, N: 1}}, Code: []api.Instr{
				{Op: api.OpBrif, Args: []api.Operand{{Kind: api.Imm, N: 1}}, Labels: []string{word, word + "." + word}},
				{Op: api.OpCall, Name: word},
			}},
			{Label: word + "." + word, Edge: true, Code: []api.Instr{{Op: api.OpBr, Labels: []string{word}}}},
		}}
		text := strings.ReplaceAll(`machine ?() { ?: ? [%1]: brif 1, ?, ?.?; call "?"(); edge ?.?: br ?; }`, "?", word)
		isRight(t, text, unitOf(usual(), f))
		isRight(t, text+" alloc slots 0 { %1: 0..1 $g1; }", allocated(usual(), f, 0, seg(1, 0, 1, reg(0, 1))))
		isRight(t, "target g 0 x 0 slots 0; "+text, unitOf(api.Target{}, f))
		// Words are no registers, nor numbers.
		isWrong(t, "alloc", api.ErrSyntax, text+" alloc slots ^"+word, text+" alloc slots 1 { ^"+word+": 0..4 $g1; }", text+" alloc slots 1 { %1: ^"+word, text+" alloc slots 1 { %1: 0..4 ^"+word)
		isWrong(t, "target", api.ErrSyntax, "target g ^"+word, "target g 8 x ^"+word, "target g 8 x 4 slots ^"+word, "target g 8 x 4 slots 9 clobber ^"+word, "target g 8 x 4 slots 9 clobber $g1 ^"+word)
	}
}

// TestTextTokens: what layer 9 says of a text, also where a token ahead of it is wrong as a unit's text.
func TestTextTokens(t *testing.T) {
	aheads := []string{"", " ", "// ?\n", ") ", "target ", "target g ", "target ; ", "target g 8 x 4 slots 9 clobber ", "target g 8 x 4 slots 9; ", "func ", "func f(, ", "func f() { } ", "func f() { } ) ", "alloc ",
		"func f() { } alloc ", "func f() { } alloc slots 1 { %2: 0 } ", "func f() { } alloc slots 1 { %2: 0..4 $g1; } ", "func f() { } alloc slots 1 { } } ", "target g " + tooGreat + " ", "func f(" + tooGreat + ") { ",
		"func f(" + strings.Repeat("(", 99)}
	long := strings.Repeat("n", api.MaxName+1)
	for wrong, code := range map[string]api.Code{
		"?": api.ErrByte, "!": api.ErrByte, "\x00": api.ErrByte, "A": api.ErrByte, "/": api.ErrByte, "\xff": api.ErrByte, long: api.ErrLong, long + "?": api.ErrLong,
		"%": api.ErrNumber, "%01": api.ErrNumber, "%-1": api.ErrNumber, "$": api.ErrNumber, "$y1": api.ErrNumber, "$g": api.ErrNumber, "#": api.ErrNumber, "#-1": api.ErrNumber, "007": api.ErrNumber, "0..04": api.ErrNumber,
		"%2147483648": api.ErrRange, "$x2147483648": api.ErrRange, "#2147483648": api.ErrRange, "9223372036854775809": api.ErrRange,
	} {
		for _, ahead := range aheads {
			text, at := ahead+wrong, len(ahead)
			if wrong == "0..04" {
				at += len("0..")
			}
			wants(t, text, outcome{path: "text", code: code, at: at})
			wants(t, text+" ) \x01", outcome{path: "text", code: code, at: at})
		}
	}
	// Of a text between quotes the place is the one that 3.2 says.
	for _, wrong := range []string{"\"", "\"a\n\"", "\"\\q\"", "\"\\x4\"", "\"" + strings.Repeat("n", api.MaxString+1) + "\""} {
		for _, ahead := range aheads {
			_, err := lex.All(ahead + wrong)
			if err == nil {
				t.Fatalf("lex.All(%s) finds nothing wrong", short(ahead+wrong))
			}
			wants(t, ahead+wrong, outcome{path: "text", code: fault.Of(err), at: fault.At(err)})
		}
	}
}

// TestTextLong: a text of as many bytes as one may have, and of one more, right and wrong.
func TestTextLong(t *testing.T) {
	fill := func(text string, long int) string { return text + strings.Repeat(" ", long-len(text)) }
	u := allocated(machine(1, nil, 2, nil, 3), plainFunc(), 4)
	isRight(t, fill("target g 1 x 2 slots 3; func f() { } alloc slots 4 { }", api.MaxText), u)
	for text, path := range map[string]string{"target g 1 x 2": "target", "": "func", "func f() {": "func", "func f() { } alloc slots 1 {": "alloc"} {
		wants(t, fill(text, api.MaxText), outcome{path: path, code: api.ErrSyntax, at: api.MaxText})
		wants(t, fill(text, api.MaxText+1), outcome{path: "text", code: api.ErrLong})
	}
	for _, text := range []string{"func f() { }", "func f() { } alloc slots 1 { }", "?", ")", "func f() { } alloc slots 1 { } }"} {
		wants(t, fill(text, api.MaxText+1), outcome{path: "text", code: api.ErrLong})
		wants(t, fill(text, 3*api.MaxText), outcome{path: "text", code: api.ErrLong})
	}
	text := "target g 1 x 2 slots 3; func f() { } alloc slots 4 {"
	for len(text) < api.MaxText-len("%0:0..1#2;}") {
		text += "%0:0..1#2;"
		u.Alloc.Segs = append(u.Alloc.Segs, seg(0, 0, 1, slot(2)))
	}
	isRight(t, text+"}", u)
}

// piecesOf is a text's tokens, each as it is written.
func piecesOf(t *testing.T, text string) []string {
	t.Helper()
	var pieces []string
	l := tokensOf(t, text)
	for n, one := range l[:len(l)-1] {
		piece, _, _ := strings.Cut(text[one.At:l[n+1].At], "//")
		pieces = append(pieces, strings.TrimSpace(piece))
	}
	return pieces
}

// wholes are units' texts that have all that there is in them.
func wholes() []string {
	all := samples()
	return []string{
		all[0], all[2] + " alloc slots 7 { }",
		"target g 8 x 4 slots 9 clobber $g0 $x1; " + all[1],
		"target g 0 x 1 slots 9223372036854775807 clobber $x1 $x0 $g5 $g5; " + all[2] + " alloc slots 3 { %1: 0..4 $g1, 4..9 #0, 9..9 $x2; %1: 7..3 #1; %2: 0..1 $g0; }",
		"target g 8 x 4 slots 9; " + all[3] + " alloc slots 0 { %0: 0..0 #0; }",
	}
}

// TestTextGaps: blanks and remarks between any tokens, ahead of all, and behind all.
func TestTextGaps(t *testing.T) {
	gaps := []string{" ", "\n", "\t", "\r", " \r\n\t ", "//\n", "// a remark\n", " // } \" ?\n \n// \x00\xff\r\n", "//////\n"}
	for _, text := range wholes() {
		want := ofText(t, text)
		if want.path != "" {
			t.Fatalf("%s is wrong: %d at %d", short(text), want.code, want.at)
		}
		pieces := piecesOf(t, text)
		for at, gap := range gaps {
			wants(t, gap+strings.Join(pieces, gap)+gap, want)
			joined := ""
			for n, piece := range pieces {
				joined += gaps[(at+n*n)%len(gaps)] + piece
			}
			wants(t, joined, want)
			wants(t, joined+"// the end", want)
		}
		for n := range pieces {
			wants(t, strings.Join(pieces[:n], " ")+gaps[n%len(gaps)]+strings.Join(pieces[n:], " "), want)
		}
	}
	isWrong(t, "alloc", api.ErrSyntax, "func f() { } alloc // slots 1\n^{ }", "func f() { }// alloc\nalloc slots 1 { %2: 0 // ..\n^4 $g1; }")
	isWrong(t, "target", api.ErrSyntax, "target // g 8 x 4 slots 9;\n^func f() { }", "target g 8 x 4 slots 9 // ;\n\t^func f() { }")
	isWrong(t, "func", api.ErrSyntax, "// target g 8 x 4 slots 9; func f() { }\n^")
	isWrong(t, "unit", api.ErrSyntax, "func f() { } // alloc\n^slots 1 { }")
}

// memory is the beginnings and ends of all lists within a value.
func memory(v reflect.Value) [][2]uintptr {
	var all [][2]uintptr
	switch v.Kind() {
	case reflect.Struct:
		for n := range v.NumField() {
			all = append(all, memory(v.Field(n))...)
		}
	case reflect.Array:
		for n := range v.Len() {
			all = append(all, memory(v.Index(n))...)
		}
	case reflect.Slice:
		if v.Cap() > 0 {
			all = append(all, [2]uintptr{v.Pointer(), v.Pointer() + uintptr(v.Cap())*v.Type().Elem().Size()})
		}
		for n := range v.Len() {
			all = append(all, memory(v.Index(n))...)
		}
	}
	return all
}

// TestNewMemory: no two lists of an answer share memory, nor do those of several answers (R3).
func TestNewMemory(t *testing.T) {
	var units []api.Unit
	for _, text := range wholes() {
		for range 3 {
			units = append(units, ofText(t, text).u)
		}
	}
	all := memory(reflect.ValueOf(units))
	slices.SortFunc(all, func(a, b [2]uintptr) int { return slices.Compare(a[:], b[:]) })
	// The list of units itself has nothing else within.
	for n := range all {
		if n > 0 && all[n-1][1] > all[n][0] {
			t.Fatal("two lists share memory")
		}
	}
}

// TestNotKept: what was read once does not show the next time, be it right or wrong.
func TestNotKept(t *testing.T) {
	whole := "target g 1 x 2 slots 3 clobber $g4; func g(%1) { a: ret 1; } alloc slots 5 { %6: 7..8 $g9; }"
	for _, other := range []string{whole, "func f() { } alloc slots 1 { %2: 0 }", "target g 7 x", "?", "func f() { } func", "machine f() { a: ret"} {
		ofText(t, other)
		isRight(t, "func f() { }", unitOf(usual(), plainFunc()))
		ofText(t, other)
		isRight(t, "target g 0 x 0 slots 0; func f() { } alloc slots 0 { }", allocated(api.Target{}, plainFunc(), 0))
	}
}

// TestAlone: texts that are read at the same time do not get into each other.
func TestAlone(t *testing.T) {
	var all sync.WaitGroup
	for n := range 8 {
		all.Go(func() {
			text := fmt.Sprintf("target g %d x 1 slots 2 clobber $g%d; func f() { } alloc slots %d { %%%d: 0..%d #%d; }", n, n, n, n, n, n)
			want := allocated(machine(n, []int{n}, 1, nil, 2), plainFunc(), n, seg(n, 0, n, slot(n)))
			for range 200 {
				if u, err := Text(text); err != nil || !ir.SameUnit(u, want) {
					t.Error("read otherwise at the same time")
					return
				}
			}
		})
	}
	all.Wait()
}
