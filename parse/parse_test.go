package parse

import (
	"fmt"
	"math"
	"reflect"
	"slices"
	"strings"
	"testing"

	"dyehouse/api"
	"dyehouse/fault"
	"dyehouse/ir"
	"dyehouse/lex"
)

const (
	least    = math.MinInt64
	greatest = math.MaxInt64
)

func vreg(n int) api.Operand { return api.Operand{Kind: api.Vreg, N: n} }
func imm(n int) api.Operand  { return api.Operand{Kind: api.Imm, N: n} }
func slot(n, tag int) api.Operand {
	return api.Operand{Kind: api.Slot, N: n, Tag: tag}
}
func preg(class, n, tag int) api.Operand {
	return api.Operand{Kind: api.Preg, Class: class, N: n, Tag: tag}
}

// nothing is the operand that is none.
func nothing() api.Operand { return api.Operand{} }

// row is operands in a row.
func row(all ...api.Operand) []api.Operand { return all }

// tokensOf is the tokens of a text, with which layer 9 finds nothing wrong.
func tokensOf(t *testing.T, text string) []api.Token {
	t.Helper()
	l, err := lex.All(text)
	if err != nil {
		t.Fatalf("lex.All(%s): %v", short(text), err)
	}
	return l
}

// short is a text, as a test's message has it.
func short(text string) string {
	return fmt.Sprintf("%.400q", text)
}

// outcome is what is answered: a function, and, of Func, the place behind; or what is wrong, where, and within what.
type outcome struct {
	f    api.Func
	next int
	path string
	code api.Code
	at   int
}

// asked holds an answer against what is promised of any, and brings it into a form that can be compared.
func asked(t *testing.T, what string, f api.Func, next int, err error) outcome {
	t.Helper()
	if err == nil {
		return outcome{f: f, next: next}
	}
	if !reflect.ValueOf(f).IsZero() || next != 0 {
		t.Fatalf("%s: beside %v there is %v, %d", short(what), err, f, next)
	}
	o := outcome{path: strings.Join(fault.Path(err), "/"), code: fault.Of(err), at: fault.At(err)}
	want := fault.New(o.code, o.at)
	if o.path != "" {
		want = fault.In(o.path, want)
	}
	if o.code == api.OK || err != want {
		t.Fatalf("%s: %v is not made as 5.1 says", short(what), err)
	}
	return o
}

// ofText is what Text answers.
func ofText(t *testing.T, text string) outcome {
	t.Helper()
	f, err := Text(text)
	return asked(t, text, f, 0, err)
}

// ofFunc is what Func answers.
func ofFunc(t *testing.T, l []api.Token, at int) outcome {
	t.Helper()
	f, next, err := Func(l, at)
	return asked(t, fmt.Sprint(at, l), f, next, err)
}

// wants holds an outcome against what it must be.
func wants(t *testing.T, what string, got, want outcome) {
	t.Helper()
	if !ir.Same(got.f, want.f) || got.next != want.next || got.path != want.path || got.code != want.code || got.at != want.at {
		t.Errorf("%s:\nis   %+v\nwant %+v", short(what), got, want)
	}
}

// isRight: the text is a function's, by Text, and by Func behind other tokens, and ahead of some.
func isRight(t *testing.T, text string, f api.Func) {
	t.Helper()
	wants(t, text, ofText(t, text), outcome{f: f})
	long := len(tokensOf(t, text)) - 1
	wants(t, text, ofFunc(t, tokensOf(t, text), 0), outcome{f: f, next: long})
	behind := ") 7 func %1 " + text
	wants(t, behind, ofFunc(t, tokensOf(t, behind), 4), outcome{f: f, next: 4 + long})
	twice := text + " " + text
	wants(t, twice, ofFunc(t, tokensOf(t, twice), 0), outcome{f: f, next: long})
	wants(t, twice, ofFunc(t, tokensOf(t, twice), long), outcome{f: f, next: 2 * long})
	closed := text + " } { 1 b:"
	wants(t, closed, ofFunc(t, tokensOf(t, closed), 0), outcome{f: f, next: long})
}

// unmarked is a text without its mark ^, and the place of what is behind the mark, and behind blanks there.
func unmarked(t *testing.T, marked string) (string, int) {
	t.Helper()
	ahead, behind, ok := strings.Cut(marked, "^")
	if !ok {
		t.Fatalf("there is no mark in %q", marked)
	}
	return ahead + behind, len(ahead) + len(behind) - len(strings.TrimLeft(behind, " "))
}

// isWrong: the texts are no functions', of that code at the mark: by Text, and by Func, also behind other tokens.
func isWrong(t *testing.T, code api.Code, all ...string) {
	t.Helper()
	for _, marked := range all {
		text, at := unmarked(t, marked)
		wants(t, marked, ofText(t, text), outcome{path: "func", code: code, at: at})
		wants(t, marked, ofFunc(t, tokensOf(t, text), 0), outcome{code: code, at: at})
		wants(t, marked, ofFunc(t, tokensOf(t, "{ 1 "+text), 2), outcome{code: code, at: 4 + at})
	}
}

// noSyntax: the texts are no functions', at the mark.
func noSyntax(t *testing.T, all ...string) {
	t.Helper()
	isWrong(t, api.ErrSyntax, all...)
}

// code is a function of one block with these instructions.
func code(all ...api.Instr) api.Func {
	return api.Func{Name: "f", Blocks: []api.Block{{Label: "a", Code: all}}}
}

// isCode: the text, with a semicolon, is an instruction's: as the only one, and amidst others.
func isCode(t *testing.T, text string, i api.Instr) {
	t.Helper()
	isRight(t, "func f() { a: "+text+" }", code(i))
	ret := api.Instr{Op: api.OpRet, Args: row(imm(1))}
	isRight(t, "machine f() { a: %1 = copy 2; "+text+text+" b: ret 1; edge c.d: "+text+" }", api.Func{Name: "f", Machine: true, Blocks: []api.Block{
		{Label: "a", Code: []api.Instr{{Op: api.OpCopy, Dst: vreg(1), Args: row(imm(2))}, i, i}},
		{Label: "b", Code: []api.Instr{ret}},
		{Label: "c.d", Edge: true, Code: []api.Instr{i}},
	}})
}

// noCode: the texts are no instructions', at the mark: as the first one, and behind others; up to the text's end, and on.
func noCode(t *testing.T, all ...string) {
	t.Helper()
	for _, marked := range all {
		noSyntax(t, "func f() { a: "+marked, "func f() { a: ret 1; "+marked+" }", "machine f() { a: edge a.b [%1]: ret 1; "+marked)
		if strings.HasSuffix(marked, ";") {
			noSyntax(t, "func f() { a: "+marked+" b: ret 1; }", "func f() { a: "+marked+" ret 1; }")
		}
	}
}

// operands are texts of operands, and these.
func operands() map[string]api.Operand {
	return map[string]api.Operand{
		"_":                         nothing(),
		"%0":                        vreg(0),
		"%7":                        vreg(7),
		"%2147483647":               vreg(2147483647),
		"$g0:%0":                    preg(api.ClassG, 0, 0),
		"$g3 : %7":                  preg(api.ClassG, 3, 7),
		"$x0:%4":                    preg(api.ClassX, 0, 4),
		"$x3:%7":                    preg(api.ClassX, 3, 7),
		"$x2147483647:%9":           preg(api.ClassX, 2147483647, 9),
		"$g0:%2147483647":           preg(api.ClassG, 0, 2147483647),
		"#0:%0":                     slot(0, 0),
		"#5:%6":                     slot(5, 6),
		"#2147483647:%8":            slot(2147483647, 8),
		"0":                         imm(0),
		"7":                         imm(7),
		"-7":                        imm(-7),
		"- 7":                       imm(-7),
		"-0":                        imm(0),
		"9223372036854775807":       imm(greatest),
		"-9223372036854775807":      imm(least + 1),
		"-9223372036854775808":      imm(least),
		"(5)":                       imm(5),
		"(-5)":                      imm(-5),
		"(-(5))":                    imm(-5),
		"(1 + 2*-(3 - 5))":          imm(5),
		"(9223372036854775807 + 1)": imm(least),
		strings.Repeat("(", 32) + "1" + strings.Repeat(")", 32): imm(1),
	}
}

// values are texts of values, and these.
func values() map[string]int {
	all := map[string]int{}
	for text, o := range operands() {
		if o.Kind == api.Imm {
			all[text] = o.N
		}
	}
	return all
}

// results are what may stand ahead of =, and these.
func results() map[string]api.Operand {
	all := map[string]api.Operand{}
	for text, o := range operands() {
		if o.Kind != api.Imm && o.Kind != api.None {
			all[text] = o
		}
	}
	return all
}

// labels are texts of where an instruction goes, and these.
func labels() map[string]string {
	return map[string]string{
		"a": "a", "b1": "b1", "_": "_", "edge": "edge", "else": "else", "add": "add", "g": "g", "regs": "regs", "func": "func",
		"a.b": "a.b", "a . b": "a.b", "edge.edge": "edge.edge", "_._": "_._", "else.else": "else.else", "call.br": "call.br",
		"abcdefghijklmnopqrstuvwx.abcdefghijklmnopqrstuvwx": "abcdefghijklmnopqrstuvwx.abcdefghijklmnopqrstuvwx",
	}
}

// words are names that mean something somewhere, or nothing anywhere.
func words() []string {
	return []string{"f", "_", "__", "a0", "func", "machine", "regs", "edge", "else", "g", "x", "add", "call", "br", "ret", "swap",
		"target", "alloc", "abcdefghijklmnopqrstuvwx"}
}

// names are the operations' names, by the document's table.
func names() map[string]int {
	return map[string]int{
		"add": api.OpAdd, "sub": api.OpSub, "mul": api.OpMul, "and": api.OpAnd, "or": api.OpOr, "xor": api.OpXor,
		"shl": api.OpShl, "shr": api.OpShr, "sar": api.OpSar, "div": api.OpDiv, "rem": api.OpRem, "eq": api.OpEq,
		"ne": api.OpNe, "lt": api.OpLt, "le": api.OpLe, "copy": api.OpCopy, "load": api.OpLoad, "store": api.OpStore,
		"call": api.OpCall, "br": api.OpBr, "brif": api.OpBrif, "switch": api.OpSwitch, "ret": api.OpRet,
		"move": api.OpMove, "spill": api.OpSpill, "reload": api.OpReload, "swap": api.OpSwap,
	}
}

// takes is from how many places an operation takes that is no call, by the document's table.
func takes(o int) int {
	switch o {
	case api.OpBr:
		return 0
	case api.OpCopy, api.OpLoad, api.OpBrif, api.OpSwitch, api.OpRet, api.OpMove, api.OpSpill, api.OpReload:
		return 1
	}
	return 2
}

// TestExample: the chapter's example.
func TestExample(t *testing.T) {
	noSyntax(t, "func f() { a: add %1^; }")
}

// TestTextSmall: the shortest functions, of both forms, with names of all kinds.
func TestTextSmall(t *testing.T) {
	isRight(t, "func f(){}", api.Func{Name: "f"})
	isRight(t, "machine f() { }", api.Func{Name: "f", Machine: true})
	for _, word := range words() {
		isRight(t, "func "+word+"() { }", api.Func{Name: word})
		isRight(t, "machine "+word+"() { }", api.Func{Name: word, Machine: true})
	}
}

// TestTextBeginning: what functions' texts do not begin with, and do not go on with up to the brace.
func TestTextBeginning(t *testing.T) {
	noSyntax(t, "^", "^f() { }", "^ } func f() { }", "^machines f() { }", "^regs %1:g; func f() { }", "^ target g 8 x 4 slots 9; func f() { }",
		"^\"func\" f() { }", "^%1", "^7", "^( func f() { } )", "^_ f() { }", "func ^", "func ^ ()", "func ^%1() { }", "func ^\"f\"() { }",
		"func ^7() { }", "func ^.f() { }", "func f^ g() { }", "func f^.g() { }", "func f^ { }", "func f^[] { }", "func f^", "machine f^: { }",
		"machine ^", "machine machine ^machine f() { }", "func machine^ f() { }", "func f()^", "func f()^ }", "func f()^ a: { }", "func f()^[%1] { }",
		"func f()^: { }", "func f()^()", "func f()^; { }", "func f() {^", "func f() {^ {", "func f() {^; }", "func f() {^ %1 = add 1, 2; }",
		"func f() {^ \"a\" }", "func f() {^ 1: }", "func f() {^ [%1]: }", "func f() {^ : }", "func f() {^ ) }", "func f() {^ $g1:%2 = copy 1; }")
}

// TestTextParams: none, one and several, of each kind, in both forms.
func TestTextParams(t *testing.T) {
	for text, o := range operands() {
		isRight(t, "func f("+text+") { }", api.Func{Name: "f", Params: row(o)})
		isRight(t, "machine f("+text+") { }", api.Func{Name: "f", Machine: true, Params: row(o)})
		for other, p := range operands() {
			both := "func f(" + text + ", " + other + ") { }"
			wants(t, both, ofText(t, both), outcome{f: api.Func{Name: "f", Params: row(o, p)}})
		}
	}
	isRight(t, "func f(%1, %1, _, 4, $g1:%2, $x2:%3, #3:%4, (1), -9223372036854775808) { }", api.Func{Name: "f", Params: row(
		vreg(1), vreg(1), nothing(), imm(4), preg(0, 1, 2), preg(1, 2, 3), slot(3, 4), imm(1), imm(least))})
	noSyntax(t, "func f(^", "func f(^, %1) { }", "func f(%1^ %2) { }", "func f(%1,^) { }", "func f(%1,^, %2) { }", "func f(%1^ { }",
		"func f(%1^] { }", "func f(^a) { }", "func f(^__) { }", "func f(^\"_\") { }", "func f(^*) { }", "func f(%1^:g) { }", "func f(_^:%1) { }",
		"func f(1^:%1) { }", "func f(^=) { }", "func f(%1, ^a) { }", "func f(%1^; %2) { }", "func f(%1 ^", "func f(%1, ^", "func f(^..) { }")
}

// TestTextOperandsWrong: what does not begin an operand, and does not go on as one, wherever one stands.
func TestTextOperandsWrong(t *testing.T) {
	places := []string{"func f(?) { }", "func f(%1, ?, %2) { }", "machine f() { a [?]: }", "machine f() { edge a.b [%1, ?]: }", "func f() { a: ret ?; }",
		"func f() { a: %1 = add %2, ?; }", "func f() { a: add ?, %2; }", "func f() { a: call \"c\"(?); }", "func f() { a: call \"c\"(%1, ?); }",
		"func f() { a: load ?; }", "func f() { a: store %1, ? + 8; }", "func f() { a: brif ?, a, b; }", "func f() { a: switch ? [else: a]; }"}
	for _, place := range places {
		for _, marked := range []string{"^a", "^__", "^=", "^}", "^{", "^.", "^..", "^+ 1", "^* 1", "^;", "^]", "^\"_\"", "^add", "^else",
			"$g1^", "$x1:^", "$x1:^$g1", "#1^ %2", "#1:^2", "#1:%2^:%3", "$g1:^g", "#1:^_", "#1^=%1", "$g1^..%1", "#1:^#2:%3", "$g1:^\"a\"",
			"%1^:%2", "%1^:g", "%1^ = %2", "%1^ %2", "_^ _", "_^:%1", "1^:%1", "-^", "-^%1", "-^-1", "-^(1)", "- ^a", "(^)", "(^%1)", "(1 +^)",
			"(1^ 1)", "(1^, 2)", "1^ - 1", "1^ * 2", "1^ 2", "1^.", "(1)^(2)", "(^_)", "(1 - ^%1)"} {
			noSyntax(t, strings.Replace(place, "?", marked, 1))
		}
	}
	noSyntax(t, "func f(1^ + 1) { }", "machine f() { a [1^ + 1]: }", "func f() { a: ret 1^ + 1; }", "func f() { a: store 1^ + 1, 2; }",
		"func f() { a: load 1 + ^+ 1; }", "func f() { a: load 1 + 1^ + 1; }", "machine f() { a: switch 1^ + 1 [else: a]; }")
}

// TestTextRegs: virtual registers and their classes.
func TestTextRegs(t *testing.T) {
	of := func(all ...api.Reg) api.Func { return api.Func{Name: "f", Regs: all} }
	isRight(t, "func f() { regs %0:g; }", of(api.Reg{}))
	isRight(t, "func f() { regs %0:x; }", of(api.Reg{Class: api.ClassX}))
	isRight(t, "machine f() { regs %7 : x ; }", api.Func{Name: "f", Machine: true, Regs: []api.Reg{{ID: 7, Class: api.ClassX}}})
	isRight(t, "func f() { regs %5:g %3:x %5:x %2147483647:g%5:g; }", of(api.Reg{ID: 5}, api.Reg{ID: 3, Class: 1},
		api.Reg{ID: 5, Class: 1}, api.Reg{ID: 2147483647}, api.Reg{ID: 5}))
	many, regs := "func f() { regs", []api.Reg{}
	for n := range 2000 {
		many += fmt.Sprintf(" %%%d:%c", n, "gx"[n%2])
		regs = append(regs, api.Reg{ID: n, Class: n % 2})
	}
	isRight(t, many+"; }", of(regs...))
	noSyntax(t, "func f() { regs %0^; }", "func f() { regs %0:^; }", "func f() { regs %0:^a; }", "func f() { regs %0:^gx; }",
		"func f() { regs %0:^g0; }", "func f() { regs %0:^\"g\"; }", "func f() { regs %0:^%1; }", "func f() { regs %0:^$g0; }",
		"func f() { regs %0:^1; }", "func f() { regs %0:g^, %1:g; }", "func f() { regs %0:g ^}", "func f() { regs %0:g %1^; }",
		"func f() { regs %0:g^", "func f() { regs %0:g ^$g1:%2; }", "func f() { regs %0:g;^; }", "func f() { regs %0^ %1:g; }",
		"func f() { regs %0:g ^a: }", "func f() { regs %0:g; regs ^%1:g; }", "func f() { regs %0:g; ^%1:g; }", "func f() { regs %0:g ^:; }",
		"func f() { regs %0^", "func f() { regs %0:^", "func f() { regs %0:x %1:^; }", "func f() { regs %0:^:g; }", "func f() { regs %0:g ^g; }")
}

// TestTextRegsNot: the word regs, where no TokVreg is behind it, begins a block.
func TestTextRegsNot(t *testing.T) {
	regs := api.Block{Label: "regs"}
	isRight(t, "func f() { regs: }", api.Func{Name: "f", Blocks: []api.Block{regs}})
	isRight(t, "func f() { regs [%1]: }", api.Func{Name: "f", Blocks: []api.Block{{Label: "regs", In: row(vreg(1))}}})
	isRight(t, "func f() { regs %0:g; regs: regs: }", api.Func{Name: "f", Regs: []api.Reg{{}}, Blocks: []api.Block{regs, regs}})
	isRight(t, "func f() { regs: br regs; regs: }", api.Func{Name: "f", Blocks: []api.Block{
		{Label: "regs", Code: []api.Instr{{Op: api.OpBr, Labels: []string{"regs"}}}}, regs}})
	noSyntax(t, "func f() { regs^; }", "func f() { regs ^}", "func f() { regs^", "func f() { regs ^a: }", "func f() { regs ^$g0:%1; }",
		"func f() { regs ^#0:%1; }", "func f() { regs ^0; }", "func f() { regs^.a: }", "func f() { a: regs ^%0:g; }", "func f() { a: ret 1; regs ^%0:g; }",
		"func f() { regs ^regs %1:g; }", "func f() { regs: regs ^%1:g; }", "func f() { regs ^\"%0\":g; }")
}

// heads are texts of how blocks begin, and blocks that begin so, without code.
func heads() map[string]api.Block {
	all := map[string]api.Block{
		"a [%1, %1, _, (-(3)), #1:%2]:":       {Label: "a", In: row(vreg(1), vreg(1), nothing(), imm(-3), slot(1, 2))},
		"edge a . b [ $x9:%2147483647 ] :":    {Label: "a.b", Edge: true, In: row(preg(1, 9, 2147483647))},
		"edge edge.edge [_, $g1:%2, 4, %3] :": {Label: "edge.edge", Edge: true, In: row(nothing(), preg(0, 1, 2), imm(4), vreg(3))},
	}
	for _, word := range words() {
		all[word+":"] = api.Block{Label: word}
		all[word+" [%1]:"] = api.Block{Label: word, In: row(vreg(1))}
		all["edge "+word+"."+word+":"] = api.Block{Label: word + "." + word, Edge: true}
		all["edge "+word+".edge [%1]:"] = api.Block{Label: word + ".edge", Edge: true, In: row(vreg(1))}
	}
	for text, o := range operands() {
		all["b ["+text+"]:"] = api.Block{Label: "b", In: row(o)}
		all["edge a.b [%9, "+text+"]:"] = api.Block{Label: "a.b", Edge: true, In: row(vreg(9), o)}
	}
	return all
}

// TestTextBlocks: how blocks begin, and how many instructions they have.
func TestTextBlocks(t *testing.T) {
	ret := api.Instr{Op: api.OpRet, Args: row(imm(1))}
	add := api.Instr{Op: api.OpAdd, Dst: vreg(1), Args: row(vreg(2), imm(3))}
	for head, b := range heads() {
		full, long := b, b
		full.Code = []api.Instr{ret}
		long.Code = []api.Instr{add, ret, ret, add}
		isRight(t, "func f() { "+head+" }", api.Func{Name: "f", Blocks: []api.Block{b}})
		isRight(t, "machine f() { "+head+" ret 1; }", api.Func{Name: "f", Machine: true, Blocks: []api.Block{full}})
		isRight(t, "func f(%1) { regs %1:x; "+head+head+" }", api.Func{Name: "f", Params: row(vreg(1)), Regs: []api.Reg{{ID: 1, Class: 1}}, Blocks: []api.Block{b, b}})
		isRight(t, "machine f() { "+head+" %1 = add %2, 3; ret 1; ret 1; %1 = add %2, 3; "+head+" ret 1; "+head+head+" }",
			api.Func{Name: "f", Machine: true, Blocks: []api.Block{long, full, b, b}})
	}
}

// TestTextBlocksWrong: what no block begins with, and what doesn't go on; as the first block, behind regs, behind blocks
// without code, and behind instructions.
func TestTextBlocksWrong(t *testing.T) {
	for _, marked := range []string{
		"a^ }", "a^; }", "a^", "a^.b: }", "a^ b: }", "a^ %1: }", "a ^= add 1, 2; }", "a^ \"a\": }", "a^, }", "a^(%1): }", "a^.. }", "a^ = ret 1; }",
		"a [^]: }", "a [^", "a [%1^: }", "a [%1,^]: }", "a [%1^ %2]: }", "a [^b]: }", "a [%1]^ ret 1; }", "a [%1]^", "a [%1]^[%2]: }",
		"a [%1]^; }", "a [%1^): }", "a [^, %1]: }", "a [%1]^.b: }", "a [$g1^]: }", "a [#1:^2]: }", "a [%1^:%2]: }", "a [^[%1]]: }", "a [%1]^ }",
		"edge^ }", "edge^; }", "edge^.a: }", "edge a^: }", "edge a^ [%1]: }", "edge a.^: }", "edge a.^ [%1]: }", "edge a.b^ }", "edge a.b^.c: }",
		"edge a^ b: }", "edge a^..b: }", "edge^ %1: }", "edge a.^1: }", "edge a.^%1: }", "edge a.b^ c: }", "edge a.b [^]: }", "edge a.b [%1]^ }",
		"edge edge^: }", "edge edge^ edge: }", "edge a.b^", "edge a.^", "edge a^", "edge^", "edge regs^ %1:g; }", "edge^ = }", "edge^ \"a\" }", "edge^.a: }",
		"edge a.b^ = }", "edge a.b^; }", "edge add^ %1, %2; }", `edge a.^"b": }`, "a:^: }", "a:^; }", "a: ^[%1]: }", "a: ^. }", "a: ^] }", "a:^, }",
		"a: ^{ }", "a: ^( }", "a: ^) }", "a: ^\"a\" }", "a: ^1 }", "a: ^-1 }", "a: ^= }", "a:^", "a: ret 1;^; }", "a: ret 1;^", "a: ret 1; ^[%1]: }",
	} {
		for _, begin := range []string{"", "regs %1:g; ", "b: ", "b: ret 1; ", "edge b.c [%1]: br c; ", "b: c: "} {
			noSyntax(t, "func f() { "+begin+marked, "machine f(%1) { "+begin+marked)
		}
	}
}

// TestTextHeadWithin: within a block a word that has : or [ behind it begins the next one, whatever it means elsewhere;
// so does edge with a word behind it.
func TestTextHeadWithin(t *testing.T) {
	for name := range names() {
		f := api.Func{Name: "f", Blocks: []api.Block{{Label: "a"}, {Label: name}, {Label: name, In: row(vreg(1))}, {Label: "edge." + name, Edge: true}}}
		isRight(t, "func f() { a: "+name+": "+name+" [%1]: edge edge."+name+": }", f)
		noSyntax(t, "func f() { a: "+name+" [1^: b, else: b]; }", "func f() { a: "+name+": ^; }", "func f() { a: "+name+" [^else: b]; }")
	}
}

// plain is an instruction of an operation, and its text without a semicolon: of the operands that are given, as many as it
// takes from; of call all of them.
func plain(name string, texts []string, args []api.Operand) (string, api.Instr) {
	i := api.Instr{Op: names()[name], Args: args}
	if i.Op == api.OpCall {
		i.Name = "c"
		return `call "c"(` + strings.Join(texts, ", ") + ")", i
	}
	i.Args = args[:takes(i.Op)]
	text := name
	if len(i.Args) > 0 {
		text += " " + strings.Join(texts[:len(i.Args)], ", ")
	}
	switch i.Op {
	case api.OpBr:
		i.Labels = []string{"b"}
		text += " b"
	case api.OpBrif:
		i.Labels = []string{"b", "c.d"}
		text += ", b, c.d"
	case api.OpSwitch:
		i.Labels = []string{"b"}
		text += " [else: b]"
	}
	return text, i
}

// TestTextInstr: an instruction of every operation, with no Dst, and with each.
func TestTextInstr(t *testing.T) {
	for name := range names() {
		text, i := plain(name, []string{"%1", "$x2:%3"}, row(vreg(1), preg(1, 2, 3)))
		isCode(t, text+";", i)
		for dst, o := range results() {
			i.Dst = o
			isCode(t, dst+" = "+text+";", i)
			isCode(t, dst+"="+text+";", i)
		}
	}
}

// TestTextInstrOperands: every operation takes operands of each kind at each of its places.
func TestTextInstrOperands(t *testing.T) {
	for name := range names() {
		for one, o := range operands() {
			text, i := plain(name, []string{one, "%9"}, row(o, vreg(9)))
			isCode(t, text+";", i)
			text, i = plain(name, []string{"#8:%9", one}, row(slot(8, 9), o))
			i.Dst = vreg(3)
			isCode(t, "%3 = "+text+";", i)
		}
	}
}

// TestTextInstrMany: too few operands, and too many, of every operation but call; and commas where they do not belong.
func TestTextInstrMany(t *testing.T) {
	for name, o := range names() {
		if o == api.OpCall {
			continue
		}
		switch takes(o) {
		case 1:
			noCode(t, name+" ^;", name+" ^, %1;", name+" ^= %1;", "%1 = "+name+" ^;", "$g1:%2 = "+name+" ^", name+" ^\"c\"();")
		case 2:
			noCode(t, name+" ^;", name+" ^, %1;", name+" %1^;", name+" %1,^;", name+" %1,^,%2;", name+" %1^ %2;", name+" %1, %2^, %3;",
				name+" %1, %2^ %3;", name+" %1, %2^,;", "%1 = "+name+" ^;", "%1 = "+name+" %2^;", "%1 = "+name+" %2, %3^, %4;", name+" %1^", name+" %1, ^",
				name+" %1, ^\"c\";", name+" ^\"c\"();", name+" %1, %2^ [else: a];", name+" %1, ^a;", name+" %1, %2^, a;")
		}
		switch o {
		case api.OpCopy, api.OpRet, api.OpMove, api.OpSpill, api.OpReload:
			noCode(t, name+" %1^, %2;", name+" %1^ %2;", name+" %1^,;", name+" %1^", name+" %1^, b;", name+" %1^ [else: a];", name+" %1^ + 2;", name+" %1^ b;")
		}
		if o != api.OpStore && takes(o) == 2 {
			noCode(t, name+" %1, %2^ + 3;")
		}
	}
}

// TestTextInstrWords: words that are no operation's name, at an instruction's beginning and behind =.
func TestTextInstrWords(t *testing.T) {
	none := []string{"foo", "_", "adds", "ad", "add_", "_add", "add0", "else", "regs", "func", "machine", "g", "x", "target"}
	for _, word := range none {
		noCode(t, word+"^;", word+"^ %1, %2;", word+"^", word+"^ = add %1, %2;", word+"^.b:", word+"^ }", word+"^ \"c\"();", word+"^ 1;", word+"^ ]", word+"^ {")
		for _, behind := range append(none, "edge", "add", "call", "br") {
			noCode(t, word+"^ "+behind, word+"^ "+behind+": ret 1;", word+"^ "+behind+" %1, %2;", word+"^ "+behind+".a:")
		}
		for dst := range results() {
			noCode(t, dst+" = ^"+word+";", dst+" = ^"+word+" %1, %2;", dst+" = ^"+word, dst+" = ^"+word+": ret 1;", dst+" = ^"+word+" [%1]: ret 1;")
		}
	}
	// What edge is, hangs on what is behind it.
	noCode(t, "edge^;", "edge^", "edge^ %1, %2;", "edge^ = ret 1;", "edge^.a:", "edge a^:", "edge add^ %1, %2;", "edge a^ b:", "%1 = ^edge a.b:", "%1 = ^edge:")
	for dst := range results() {
		noCode(t, dst+"^;", dst+"^", dst+"^ add 1, 2;", dst+"^, %1 = add 1, 2;", dst+" =^", dst+" =^;", dst+" =^ = add 1, 2;", dst+" =^ %1;", dst+" =^ 1;",
			dst+" =^ \"add\" 1, 2;", dst+" =^ (1);", dst+" = add ^: 1;", dst+" = switch ^[else: a];", dst+"^.. add 1, 2;")
	}
	noCode(t, "$g1^ = add 1, 2;", "$x1:^ = add 1, 2;", "#1:^#2 = add 1, 2;", "#1:%2^:%3 = add 1, 2;", "%1^:%2 = add 1, 2;", "%1^:g = add 1, 2;",
		"_^ = add 1, 2;", "^1 = add 1, 2;", "^-1 = add 1, 2;", "^(1) = add 1, 2;", "^= add 1, 2;", "^\"add\" 1, 2;", "^;", "^, ret 1;", "^[%1]: ret 1;", "^: ret 1;")
}

// TestTextCall: whom an instruction calls, and with what.
func TestTextCall(t *testing.T) {
	all := map[string]string{
		`""`: "", `"c"`: "c", `"%1 = add"`: "%1 = add", `"a b"`: "a b", `"\"\\\n\x00\xff"`: "\"\\\n\x00\xff", `"//"`: "//", `"^;)}"`: "^;)}",
		`"` + strings.Repeat("n", 64) + `"`: strings.Repeat("n", 64), `"` + strings.Repeat(`\x41`, 64) + `"`: strings.Repeat("A", 64),
	}
	for text, name := range all {
		i := api.Instr{Op: api.OpCall, Name: name}
		isCode(t, "call "+text+"();", i)
		i.Dst, i.Args = vreg(5), row(vreg(1))
		isCode(t, "%5 = call "+text+"(%1);", i)
		i.Dst, i.Args = preg(1, 2, 3), row(vreg(1), imm(-2), slot(3, 4), nothing(), preg(0, 1, 2), preg(1, 0, 0), imm(5), vreg(1), vreg(9), imm(0))
		isCode(t, "$x2:%3 = call "+text+" ( %1, - 2, #3:%4, _, $g1:%2, $x0:%0, (2 + 3), %1, %9, 0 ) ;", i)
	}
	for text, o := range operands() {
		isCode(t, `call "c"(`+text+");", api.Instr{Op: api.OpCall, Name: "c", Args: row(o)})
		isCode(t, `call "c"(%1, `+text+");", api.Instr{Op: api.OpCall, Name: "c", Args: row(vreg(1), o)})
	}
	text, args := `call "c"(0`, row(imm(0))
	for n := range 500 {
		text += fmt.Sprintf(", %%%d", n)
		args = append(args, vreg(n))
	}
	isCode(t, text+");", api.Instr{Op: api.OpCall, Name: "c", Args: args})
	noCode(t, "call ^;", "call ^c();", "call ^%1();", "call ^();", "call ^7();", "call ^", "call \"c\"^;", "call \"c\"^", "call \"c\"^ \"d\"();",
		"call \"c\"^ %1;", "call \"c\"^[];", "call \"c\"(^;", "call \"c\"(^", "call \"c\"(^, %1);", "call \"c\"(%1,^);", "call \"c\"(%1,^, %2);",
		"call \"c\"(%1^ %2);", "call \"c\"(%1^;", "call \"c\"()^()", "call \"c\"()^, %1;", "call \"c\"()^ + 1;", "call \"c\"(%1)^ %2;", "call \"c\"(^b);",
		"call \"c\"(%1^];", "call \"c\"()^", "call \"c\"()^ }", "call \"c\"()^ ret 1;", "call \"c\"(^[else: a]);", "call \"c\"^.d();", "call \"c\"^: ret 1;")
}

// TestTextOff: load and store, with nothing behind, and with + and a value.
func TestTextOff(t *testing.T) {
	load := api.Instr{Op: api.OpLoad, Dst: vreg(2), Args: row(vreg(1))}
	store := api.Instr{Op: api.OpStore, Args: row(preg(0, 1, 2), preg(1, 3, 4))}
	isCode(t, "%2 = load %1;", load)
	isCode(t, "store $g1:%2, $x3:%4;", store)
	for text, n := range values() {
		load.Off, store.Off = n, n
		isCode(t, "%2 = load %1 + "+text+";", load)
		isCode(t, "store $g1:%2, $x3:%4 + "+text+";", store)
	}
	isCode(t, "load 5 + 6;", api.Instr{Op: api.OpLoad, Args: row(imm(5)), Off: 6})
	isCode(t, "load -5 + -6;", api.Instr{Op: api.OpLoad, Args: row(imm(-5)), Off: -6})
	isCode(t, "store 7, (5) + (6);", api.Instr{Op: api.OpStore, Args: row(imm(7), imm(5)), Off: 6})
	isCode(t, "load _ + 6;", api.Instr{Op: api.OpLoad, Args: row(nothing()), Off: 6})
	for _, ahead := range []string{"load %1", "%2 = load #3:%4", "store %1, %2", "$g1:%2 = store %1, 7"} {
		noCode(t, ahead+" + ^;", ahead+" + ^%3;", ahead+" + ^_;", ahead+" + ^+ 1;", ahead+" + -^;", ahead+" + -^-1;", ahead+" + -^(1);", ahead+"^ - 1;",
			ahead+"^ 1;", ahead+"^ -1;", ahead+" + 1^ + 2;", ahead+" + 1^, 2;", ahead+"^, 2;", ahead+" + ^b;", ahead+" + ^", ahead+" + 1^", ahead+" + 1^ 2;",
			ahead+" + 1^ - 2;", ahead+" + (1^;", ahead+" + (^);", ahead+" + 1^ * 2;", ahead+"^ b;", ahead+"^ [else: a];", ahead+"^", ahead+" + ^\"1\";",
			ahead+" + ^$g1:%2;", ahead+" + ^#1:%2;", ahead+"^..1;", ahead+" + 1^: ret 1;")
	}
}

// TestTextBranches: br and brif, with labels of one word and of two.
func TestTextBranches(t *testing.T) {
	for text, label := range labels() {
		isCode(t, "br "+text+";", api.Instr{Op: api.OpBr, Labels: []string{label}})
		isCode(t, "%1 = br "+text+";", api.Instr{Op: api.OpBr, Dst: vreg(1), Labels: []string{label}})
		for more, other := range labels() {
			isCode(t, "brif %1, "+text+", "+more+";", api.Instr{Op: api.OpBrif, Args: row(vreg(1)), Labels: []string{label, other}})
		}
	}
	noCode(t, "br ^;", "br ^%1;", "br ^1;", "br ^\"a\";", "br ^.a;", "br _^, a;", "br a^ b;", "br a^, b;", "br a.^;", "br a.^%1;", "br a.^1;", "br a.b^.c;",
		"br a^..b;", "br a^: b;", "br a.b^: ret 1;", "br a^", "br a.^", "br a.b^", "br ^", "br a^ }", "br a^ + 1;", "br a.b^, c;", "br a^(1);", "br a^ [else: a];",
		"br a.^;", "br ^$g1:%2;", "br a.b^ c;", "br ^%1, a;")
	noCode(t, "brif ^;", "brif ^a, b;", "brif %1^;", "brif %1^ a, b;", "brif %1,^;", "brif %1, ^%2;", "brif %1, ^1, a;", "brif %1, a^;", "brif %1, a^ b;",
		"brif %1, a,^;", "brif %1, a, ^%2;", "brif %1, a, b^, c;", "brif %1, a, b^ c;", "brif %1, a.^, b;", "brif %1, a.b^.c, d;", "brif %1, a^..b, c;",
		"brif %1, a, b.^;", "brif %1, a, b.^%1;", "brif %1, a, b.c^.d;", "brif %1, a^: b;", "brif %1, a, b^: ret 1;", "brif %1, ^, b;", "brif %1, a, ^, b;",
		"brif %1, a, b^", "brif %1, a, b.^", "brif %1, a, ^", "brif %1, a^", "brif %1, ^", "brif %1^", "brif %1^ + 1, a, b;", "brif %1, a, b^ + 1;",
		"brif %1, ^%2, a, b;", "brif %1^ [else: a];", "brif %1, ^\"a\", b;")
}

// TestTextSwitch: a switch with no cases but else, with one, and with several.
func TestTextSwitch(t *testing.T) {
	for text, label := range labels() {
		i := api.Instr{Op: api.OpSwitch, Args: row(vreg(1)), Labels: []string{label}}
		isCode(t, "switch %1 [else: "+text+"];", i)
		i.Cases, i.Labels = []int{5}, []string{label, "z"}
		isCode(t, "switch %1 [5: "+text+", else: z];", i)
		i.Cases, i.Labels = []int{5, 5}, []string{"y.z", label, label}
		isCode(t, "switch %1[5:y.z,5:"+text+",else:"+text+"];", i)
	}
	for text, n := range values() {
		isCode(t, "switch %1 ["+text+": a, else: b];", api.Instr{Op: api.OpSwitch, Args: row(vreg(1)), Cases: []int{n}, Labels: []string{"a", "b"}})
		isCode(t, "$g1:%2 = switch 4 [1: c, "+text+": a.b, else: else];", api.Instr{Op: api.OpSwitch, Dst: preg(0, 1, 2), Args: row(imm(4)),
			Cases: []int{1, n}, Labels: []string{"c", "a.b", "else"}})
	}
	text, i := "switch %1 [", api.Instr{Op: api.OpSwitch, Args: row(vreg(1))}
	for n := range 500 {
		text += fmt.Sprintf("%d: b%d, ", -n, n)
		i.Cases = append(i.Cases, -n)
		i.Labels = append(i.Labels, fmt.Sprintf("b%d", n))
	}
	i.Labels = append(i.Labels, "c")
	isCode(t, text+"else: c];", i)
	noCode(t, "switch ^;", "switch ^a [else: b];", "switch %1^;", "switch %1^, [else: b];", "switch %1^ (else: b);", "switch %1^ a;", "switch %1 [^];",
		"switch %1 [^a: b, else: c];", "switch %1 [else^];", "switch %1 [else^ b];", "switch %1 [else:^];", "switch %1 [else: ^1];", "switch %1 [else: b^;",
		"switch %1 [else: b^, 1: c];", "switch %1 [else: b^,];", "switch %1 [else: b]^, c;", "switch %1 [else: b.^];", "switch %1 [else: b.c^.d];",
		"switch %1 [1^];", "switch %1 [1^ b, else: c];", "switch %1 [1:^];", "switch %1 [1: b^];", "switch %1 [1: b^ else: c];", "switch %1 [1: b,^];",
		"switch %1 [1: b,^, else: c];", "switch %1 [1: b.^, else: c];", "switch %1 [1: b^..c, else: d];", "switch %1 [^%1: b, else: c];", "switch %1 [1: b, ^c: d];",
		"switch %1 [-^: b, else: c];", "switch %1 [-^(1): b, else: c];", "switch %1 [1^ + 1: b, else: c];", "switch %1 [(1^: b, else: c];", "switch %1 [^_: b, else: c];",
		"switch %1 [^else_: b];", "switch %1 [^\"else\": b];", "switch %1 [1: ^2, else: c];", "switch %1 [else: b^", "switch %1 [else:^", "switch %1 [else^",
		"switch %1 [^", "switch %1 [1^", "switch %1 [1:^", "switch %1 [1: b^", "switch %1 [1: b,^", "switch %1 [else: b]^", "switch %1 [else: b]^ }",
		"switch %1^ + 1 [else: b];", "switch %1 [else: b]^ [else: b];", "switch %1^:%2 [else: b];", "switch %1 [^, else: b];", "switch %1 [else^.a: b];",
		"switch [1^: b, else: c];", "switch [^else: b];", "switch %1 [^$g1:%2: b, else: c];", "switch %1 [1: b, else: c^ d];", "switch %1 [^]")
}

// TestTextValues: what a value says, wherever one stands (10.1).
func TestTextValues(t *testing.T) {
	places := []string{"func f(?) { }", "func f(%1, ?) { }", "func f() { a [?]: }", "func f() { a: ret ?; }", "func f() { a: %1 = add %2, ?; }",
		"func f() { a: call \"c\"(1, ?); }", "func f() { a: load %1 + ?; }", "func f() { a: store %1, %2 + ?; }", "func f() { a: load ? + 1; }",
		"func f() { a: switch ? [else: a]; }", "func f() { a: switch %1 [?: a, else: b]; }", "func f() { a: switch %1 [1: a, ?: b, else: c]; }"}
	deep := strings.Repeat("(", api.MaxDepth)
	for _, place := range places {
		put := func(marked string) string { return strings.Replace(place, "?", marked, 1) }
		isWrong(t, api.ErrRange, put("^9223372036854775808"), put("(^9223372036854775808)"), put("(1 - ^9223372036854775808)"),
			put("(1 + 2 * ^9223372036854775808 - 9223372036854775808)"), put("(- 9223372036854775808 + ^9223372036854775808)"))
		isWrong(t, api.ErrDepth, put(deep+"^(1)"+strings.Repeat(")", api.MaxDepth)), put(deep+"^("), put(deep+"1 + - ^("), put(deep+"^((9223372036854775808"))
		isWrong(t, api.ErrSyntax, put("-^-9223372036854775808"), put("(^)"), put("(1^ 9223372036854775808)"), put("-^(1)"), put(deep+"^)"), put("(1^"+deep))
		// The first one that is wrong counts, whatever stands behind it.
		isWrong(t, api.ErrRange, put("^9223372036854775808 "+deep+"("), put("(^9223372036854775808"))
		isWrong(t, api.ErrSyntax, put("7^ 9223372036854775808"), put("(7^ ;"+deep+"("))
	}
	// A number where no value may stand is just the wrong token.
	noSyntax(t, "^9223372036854775808", "func ^9223372036854775808() { }", "func f() { regs %1:^9223372036854775808; }", "func f() { a: ^9223372036854775808 = add 1, 2; }",
		"func f() { a: br ^9223372036854775808; }", "func f() { a: call ^9223372036854775808(1); }")
}

// TestTextTokens: what layer 9 says of a text, also where a token ahead of it is wrong as a function's text.
func TestTextTokens(t *testing.T) {
	long := strings.Repeat("n", api.MaxName+1)
	for wrong, code := range map[string]api.Code{
		"^?": api.ErrByte, "^!": api.ErrByte, "^\x00": api.ErrByte, "^A": api.ErrByte, "^/": api.ErrByte, "^\xff": api.ErrByte, "^" + long: api.ErrLong, "^" + long + "?": api.ErrLong,
		"^%": api.ErrNumber, "^%01": api.ErrNumber, "^$": api.ErrNumber, "^$y1": api.ErrNumber, "^$g": api.ErrNumber, "^#": api.ErrNumber, "^#-1": api.ErrNumber, "^007": api.ErrNumber,
		"^%2147483648": api.ErrRange, "^$x2147483648": api.ErrRange, "^#2147483648": api.ErrRange, "^9223372036854775809": api.ErrRange,
	} {
		for _, ahead := range []string{"", " ", "// ?\n", ") ", "func ", "machine f( ", "func f() { } ", "func f() { a: ret 1; } 7 ", "add add ; ", "func f(9223372036854775808) { ",
			"func f() { a: add %1; } ", strings.Repeat("(", 99), "func f(, ", "target g 8 x 4 slots 9; "} {
			text, at := unmarked(t, ahead+wrong)
			wants(t, text, ofText(t, text), outcome{path: "text", code: code, at: at})
			wants(t, text, ofText(t, text+" ) \x01"), outcome{path: "text", code: code, at: at})
		}
	}
	// Of a text between quotes the place is the one that 3.2 says.
	for _, wrong := range []string{"\"", "\"a\n\"", "\"\\q\"", "\"\\x4\"", "\"" + strings.Repeat("n", api.MaxString+1) + "\""} {
		for _, ahead := range []string{"", ") ", "func f() { a: call ", "func f() { a: call \"c\"(%1); } "} {
			_, err := lex.All(ahead + wrong)
			if err == nil {
				t.Fatalf("lex.All(%s) finds nothing wrong", short(ahead+wrong))
			}
			wants(t, ahead+wrong, ofText(t, ahead+wrong), outcome{path: "text", code: fault.Of(err), at: fault.At(err)})
		}
	}
}

// TestTextLong: a text of as many bytes as one may have, and of one more, right and wrong.
func TestTextLong(t *testing.T) {
	fill := func(text string, long int) string { return text + strings.Repeat(" ", long-len(text)) }
	wants(t, "long", ofText(t, fill("func f() { }", api.MaxText)), outcome{f: api.Func{Name: "f"}})
	wants(t, "long", ofText(t, fill("func f( { }", api.MaxText)), outcome{path: "func", code: api.ErrSyntax, at: 8})
	wants(t, "long", ofText(t, fill("func f() {", api.MaxText)), outcome{path: "func", code: api.ErrSyntax, at: api.MaxText})
	for _, text := range []string{"func f() { }", "func f( { }", "?", ")"} {
		wants(t, "too long", ofText(t, fill(text, api.MaxText+1)), outcome{path: "text", code: api.ErrLong})
		wants(t, "too long", ofText(t, fill(text, 3*api.MaxText)), outcome{path: "text", code: api.ErrLong})
	}
	text, i := "func f(){a:", api.Instr{Op: api.OpRet, Args: row(imm(1))}
	f := code()
	for len(text) < api.MaxText-len("ret 1;}") {
		text += "ret 1;"
		f.Blocks[0].Code = append(f.Blocks[0].Code, i)
	}
	wants(t, "many", ofText(t, text+"}"), outcome{f: f})
	text, f = "func f(){", api.Func{Name: "f"}
	for len(text) < api.MaxText-len("a:}") {
		text += "a:"
		f.Blocks = append(f.Blocks, api.Block{Label: "a"})
	}
	wants(t, "many", ofText(t, text+"}"), outcome{f: f})
}

// TestTextBehind: behind the function there must be the end: of Text, not of Func.
func TestTextBehind(t *testing.T) {
	f := code(api.Instr{Op: api.OpRet, Args: row(imm(1))})
	text := "func f() { a: ret 1; }"
	long := len(tokensOf(t, text)) - 1
	for _, behind := range []string{"}", "{", ";", "a", "a:", "func", "func g() { }", "machine g() { }", "alloc slots 1 { }", "%1", "$g1:%2", "#1", "7", "\"a\"", ".", "..", "(", "ret 1;",
		"9223372036854775808", "edge a.b:", "regs %1:g;", "-"} {
		for _, gap := range []string{"", " ", "\n\t\r\n", " // }\n"} {
			whole := text + gap + behind
			wants(t, whole, ofText(t, whole), outcome{path: "func", code: api.ErrSyntax, at: len(text + gap)})
			wants(t, whole, ofFunc(t, tokensOf(t, whole), 0), outcome{f: f, next: long})
		}
	}
	for _, behind := range []string{"", " ", "\n", "// }", "\r\n// a\n// b\n\t"} {
		wants(t, text+behind, ofText(t, text+behind), outcome{f: f})
	}
}

// TestTextGaps: blanks and remarks between any tokens, ahead of all, and behind all.
func TestTextGaps(t *testing.T) {
	gaps := []string{" ", "\n", "\t", "\r", " \r\n\t ", "//\n", "// a remark\n", " // } \" ?\n \n// \x00\xff\r\n", "//////\n"}
	for _, text := range samples() {
		want := ofText(t, text)
		if want.path != "" {
			t.Fatalf("%s is wrong: %d at %d", short(text), want.code, want.at)
		}
		pieces := piecesOf(t, text)
		for at, gap := range gaps {
			joined := gap + strings.Join(pieces, gap) + gap
			wants(t, joined, ofText(t, joined), want)
			joined = ""
			for n, piece := range pieces {
				joined += gaps[(at+n*n)%len(gaps)] + piece
			}
			wants(t, joined, ofText(t, joined), want)
			wants(t, joined, ofText(t, joined+"// the end"), want)
		}
		// A gap at one place alone.
		for n := range pieces {
			gap := gaps[n%len(gaps)]
			joined := strings.Join(pieces[:n], " ") + gap + strings.Join(pieces[n:], " ")
			wants(t, joined, ofText(t, joined), want)
		}
	}
	isWrong(t, api.ErrSyntax, "func f() { a: add %1 // ; }\n, %2 // %3;\n ^b; }", "//\nfunc // f\n// g\n^() { }", "// func f() { }\n^")
}

// samples are functions' texts that have all that there is in them, but expressions and noughts: so the text that is
// told of the function has the very same tokens, and has them of each that comes of one change, if that is a function's.
func samples() []string {
	return []string{
		`func f(%1, %2, _, 4) { regs %1:g %2:x %3:g; a: %3 = load %2 + -8; %3 = add %3, 1; store %3, %2 + 16; brif %3, b, c; ` +
			`b: %1 = call "put \"\n\""(%3, 5, -7); call ""(); br edge; edge: switch %1 [1: a, -9223372036854775807: b, else: add]; c: add: ret %1; }`,
		`machine g($g1:%1, $x2:%2, #3:%4) { regs %1:g; regs [$g1:%1]: move $g1:%1; $x2:%2 = reload #3:%4; #3:%4 = spill $g1:%1; swap $g1:%1, #3:%4; br regs.a; ` +
			`edge regs.a [$g1:%1, #3:%4]: br a; a [_, %7, 9]: $g1:%1 = switch _ [else: edge.a]; #1:%1 = call "x"(_); edge edge.a: ret 9223372036854775807; }`,
		`func edge() { }`,
		`machine regs(-1) { regs: ret 1; }`,
		`func func(#1:%2) { edge edge.edge [%3]: brif %1, edge.edge, edge; edge [$x1:%2]: load 5 + 6; }`,
	}
}

// piecesOf is a text's tokens, each as it is written.
func piecesOf(t *testing.T, text string) []string {
	t.Helper()
	var pieces []string
	l := tokensOf(t, text)
	for n, one := range l[:len(l)-1] {
		pieces = append(pieces, strings.TrimRight(text[one.At:l[n+1].At], " "))
	}
	return pieces
}

// TestFuncNoPlace: at is not the place of a token.
func TestFuncNoPlace(t *testing.T) {
	for _, text := range []string{"", "func f() { }", "func f() { } func g() { }", ") func f() {", "9223372036854775808"} {
		l := tokensOf(t, text)
		for _, at := range []int{least, least + 1, -1 << 32, -100, -2, -1, len(l), len(l) + 1, len(l) + 100, 1 << 32, greatest - 1, greatest} {
			wants(t, text, ofFunc(t, l, at), outcome{code: api.ErrArg})
		}
	}
	for _, at := range []int{least, -1, 0, 1, 2, greatest} {
		wants(t, "nil", ofFunc(t, nil, at), outcome{code: api.ErrArg})
		wants(t, "none", ofFunc(t, []api.Token{}, at), outcome{code: api.ErrArg})
		wants(t, "none, with room", ofFunc(t, tokensOf(t, "func f() { }")[:0], at), outcome{code: api.ErrArg})
	}
}

// TestFuncNoEnd: the last token is no TokEnd, even if one stands ahead of it, or behind the list's length.
func TestFuncNoEnd(t *testing.T) {
	for _, text := range []string{"func f() { }", "func f() { a: add %1; }", "9223372036854775808", ") ) )", "func f() { } func g() { }"} {
		l := tokensOf(t, text)
		long := len(l) - 1
		for many := range long + 1 {
			for at := -1; at <= many; at++ {
				wants(t, text, ofFunc(t, l[:many], at), outcome{code: api.ErrArg})
				wants(t, text, ofFunc(t, slices.Clone(l[:many]), at), outcome{code: api.ErrArg})
			}
		}
		for _, behind := range l[:long] {
			more := append(slices.Clone(l), behind)
			for at := range len(more) + 1 {
				wants(t, text, ofFunc(t, more, at), outcome{code: api.ErrArg})
			}
		}
		for kind := api.TokWord; kind <= api.TokSign+1; kind++ {
			more := append(slices.Clone(l), api.Token{Kind: kind, At: 7})
			wants(t, text, ofFunc(t, more, 0), outcome{code: api.ErrArg})
		}
	}
}

// TestFuncPlaces: the function begins at the token that is told, and nowhere else; behind it there may be anything.
func TestFuncPlaces(t *testing.T) {
	texts := samples()
	for n, text := range texts {
		want := ofText(t, text).f
		long := len(tokensOf(t, text)) - 1
		for _, ahead := range []string{"", "(", "func", "func g() { }", "a: ret 1;", "9223372036854775808", "machine", texts[(n+1)%len(texts)]} {
			at := len(tokensOf(t, ahead)) - 1
			for _, behind := range []string{"", "}", "func", "func g() { }", "a:", "ret 1;", "9223372036854775808", "alloc slots 1 { }", ")", "\"a\"", "7", "..", text} {
				l := tokensOf(t, ahead+" "+text+" "+behind)
				wants(t, ahead+" | "+text+" | "+behind, ofFunc(t, l, at), outcome{f: want, next: at + long})
			}
		}
	}
	// From each place of a text on: just where func or machine stands something begins.
	text := "func func() { func: br machine; machine: ret 1; } machine g() { }"
	l := tokensOf(t, text)
	for at, token := range l {
		got := ofFunc(t, l, at)
		switch {
		case at == 0:
			wants(t, text, got, outcome{f: ofText(t, text[:strings.Index(text, "machine g")]).f, next: len(l) - 7})
		case at == len(l)-7:
			wants(t, text, got, outcome{f: api.Func{Machine: true, Name: "g"}, next: len(l) - 1})
		case token.Text == "func" || token.Text == "machine":
			behind := l[at+1]
			if behind.Kind == api.TokWord {
				behind = l[at+2]
			}
			wants(t, text, got, outcome{code: api.ErrSyntax, at: behind.At})
		default:
			wants(t, text, got, outcome{code: api.ErrSyntax, at: token.At})
		}
	}
}

// TestFuncTokenPlaces: what is wrong is told at the token's own place, whatever its number in the list; of a TokEnd, too.
func TestFuncTokenPlaces(t *testing.T) {
	for _, place := range []int{0, 1, 77, 1 << 20, api.MaxID, greatest, -5} {
		for marked, code := range map[string]api.Code{"func f() { a: add %1 ^; }": api.ErrSyntax, "func f() ^": api.ErrSyntax, "func f(^9223372036854775808) { }": api.ErrRange,
			"func f(" + strings.Repeat("(", api.MaxDepth) + "^(": api.ErrDepth} {
			text, at := unmarked(t, marked)
			l := tokensOf(t, text)
			for n := range l {
				if l[n].At == at {
					l[n].At = place
				} else {
					l[n].At = 12345 + n
				}
			}
			wants(t, marked, ofFunc(t, l, 0), outcome{code: code, at: place})
		}
	}
}

// TestFuncBeyondText: tokens in any number are read, also more than any text has.
func TestFuncBeyondText(t *testing.T) {
	repeated := func(text string, many int) []api.Token {
		l := tokensOf(t, text)
		return slices.Repeat(l[:len(l)-1], many)
	}
	joined := func(all ...[]api.Token) []api.Token {
		return append(slices.Concat(all...), api.Token{Kind: api.TokEnd, At: 9})
	}
	const many = 100_000
	begin, end := repeated("func f(%1) { regs %1:g; a:", 1), repeated("ret 1; }", 1)
	l := joined(begin, repeated("%1 = add %1, (1 + 2);", many), end)
	got := ofFunc(t, l, 0)
	if got.code != api.OK || got.next != len(l)-1 || len(got.f.Blocks) != 1 || len(got.f.Blocks[0].Code) != many+1 {
		t.Errorf("many instructions: %d at %d, %d blocks", got.code, got.at, len(got.f.Blocks))
	}
	l = joined(begin, repeated("b: ret 1; edge a.b [%1]:", many), end)
	if got = ofFunc(t, l, 0); got.code != api.OK || got.next != len(l)-1 || len(got.f.Blocks) != 2*many+1 {
		t.Errorf("many blocks: %d at %d, %d blocks", got.code, got.at, len(got.f.Blocks))
	}
	wants(t, "many", ofFunc(t, joined(begin, repeated("b: ret 1;", many)), 0), outcome{code: api.ErrSyntax, at: 9})
	wants(t, "deep", ofFunc(t, joined(repeated("func f(", 1), repeated("(", many)), 0), outcome{code: api.ErrDepth})
}

// TestUntouched: the tokens that were handed in stay as they were, and what lies behind the list's length is neither read
// nor written.
func TestUntouched(t *testing.T) {
	for _, text := range append(samples(), "func f() { a: add %1; }", "func f() { a: ret 1;", "func f(9223372036854775808) { }", "func f() { a: foo", "func f() { edge") {
		l := tokensOf(t, text)
		want := ofFunc(t, l, 0)
		for _, other := range []string{"; }", "a: }", "}", "1", "%1, %2; } func f", "9223372036854775808"} {
			// What lies behind is no list such as layer 9 tells, either: its last one is no TokEnd.
			behind := tokensOf(t, other)
			whole := slices.Clip(append(slices.Clone(l), behind[:len(behind)-1]...))
			was := slices.Clone(whole)
			for at := range l {
				got := ofFunc(t, whole[:len(l)], at)
				if at == 0 {
					wants(t, text, got, want)
				}
				if !slices.Equal(whole, was) {
					t.Fatalf("Func(%s, %d) changes the tokens", short(text), at)
				}
			}
		}
	}
}

// memory is the beginnings and ends of all lists within a value.
func memory(v reflect.Value) [][2]uintptr {
	var all [][2]uintptr
	switch v.Kind() {
	case reflect.Struct:
		for n := range v.NumField() {
			all = append(all, memory(v.Field(n))...)
		}
	case reflect.Slice:
		if v.Cap() > 0 {
			all = append(all, [2]uintptr{v.Pointer(), v.Pointer() + uintptr(v.Cap())*v.Type().Elem().Size()})
		}
		for n := range v.Len() {
			all = append(all, memory(v.Index(n))...)
		}
	}
	return all
}

// TestNewMemory: no two lists of an answer share memory, nor do those of two answers (R3).
func TestNewMemory(t *testing.T) {
	for _, text := range samples() {
		l := tokensOf(t, text)
		first, _, _ := Func(l, 0)
		second, _, _ := Func(l, 0)
		third, _ := Text(text)
		all := memory(reflect.ValueOf([]api.Func{first, second, third}))
		slices.SortFunc(all, func(a, b [2]uintptr) int { return slices.Compare(a[:], b[:]) })
		for n := range all {
			if n > 0 && all[n-1][1] > all[n][0] {
				t.Fatalf("%s: two lists share memory", text)
			}
		}
	}
}

// TestNotKept: what was read once does not show the next time, nor do tokens that are changed behind the call.
func TestNotKept(t *testing.T) {
	l := tokensOf(t, "func f(%1) { a: ret %1; }")
	want := api.Func{Name: "f", Params: row(vreg(1)), Blocks: []api.Block{{Label: "a", Code: []api.Instr{{Op: api.OpRet, Args: row(vreg(1))}}}}}
	f, next, err := Func(l, 0)
	for n := range l {
		l[n] = api.Token{}
	}
	wants(t, "first", asked(t, "first", f, next, err), outcome{f: want, next: 12})
	noSyntax(t, "func f(%1) { a: ret ^; }")
	isRight(t, "func f(%1) { a: ret %1; }", want)
	wants(t, "none", ofFunc(t, l, 3), outcome{code: api.ErrSyntax})
}
