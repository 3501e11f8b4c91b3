package parse

import (
	"fmt"
	"maps"
	"slices"
	"strings"
	"testing"

	"dyehouse/api"
	"dyehouse/show"
)

// The model: the document's grammar, written down as it stands there, and gone through in all ways at once. It tells with
// which tokens a text goes on, without knowing how a reader chooses its way.

// rule is a piece of the grammar: a token; or others, one behind the other, or any one of them, or one any number of
// times; or one that is made later, since it is within itself.
type rule struct {
	token func(api.Token) bool
	steps []*rule
	ways  []*rule
	again *rule
	later func() *rule
}

// todo is what must come of a text: a rule, and what is behind it; nil: nothing any more.
type todo struct {
	rule *rule
	next *todo
}

func tok(kind int) *rule {
	return &rule{token: func(t api.Token) bool { return t.Kind == kind }}
}

func text(kind int, text string) *rule {
	return &rule{token: func(t api.Token) bool { return t.Kind == kind && t.Text == text }}
}

func sign(s string) *rule      { return text(api.TokSign, s) }
func word(s string) *rule      { return text(api.TokWord, s) }
func steps(all ...*rule) *rule { return &rule{steps: all} }
func ways(all ...*rule) *rule  { return &rule{ways: all} }
func again(one *rule) *rule    { return &rule{again: one} }
func maybe(one *rule) *rule    { return ways(steps(), one) }

// parted is a rule once or several times, with a sign between.
func parted(one *rule, by string) *rule {
	return steps(one, again(steps(sign(by), one)))
}

// grammar is the rule of a function's text.
func grammar() *rule {
	number, vreg := tok(api.TokNumber), tok(api.TokVreg)
	var expression *rule
	inner := steps(sign("("), &rule{later: func() *rule { return expression }}, sign(")"))
	factor := steps(maybe(sign("-")), ways(number, inner))
	product := parted(factor, "*")
	expression = steps(product, again(steps(ways(sign("+"), sign("-")), product)))
	value := ways(steps(maybe(sign("-")), number), inner)

	place := ways(tok(api.TokPreg), tok(api.TokSlot))
	register := ways(vreg, steps(place, sign(":"), vreg))
	operand := ways(register, word("_"), value)
	label := steps(tok(api.TokWord), maybe(steps(sign("."), tok(api.TokWord))))
	parenthesis := steps(sign("("), maybe(parted(operand, ",")), sign(")"))

	var operations []*rule
	for name, o := range names() {
		parts := []*rule{word(name)}
		switch {
		case o == api.OpCall:
			parts = append(parts, tok(api.TokText), parenthesis)
		case takes(o) == 1:
			parts = append(parts, operand)
		case takes(o) == 2:
			parts = append(parts, operand, sign(","), operand)
		}
		switch o {
		case api.OpLoad, api.OpStore:
			parts = append(parts, maybe(steps(sign("+"), value)))
		case api.OpBr:
			parts = append(parts, label)
		case api.OpBrif:
			parts = append(parts, sign(","), label, sign(","), label)
		case api.OpSwitch:
			parts = append(parts, sign("["), again(steps(value, sign(":"), label, sign(","))), word("else"), sign(":"), label, sign("]"))
		}
		operations = append(operations, steps(parts...))
	}
	instruction := steps(maybe(steps(register, sign("="))), ways(operations...), sign(";"))

	head := ways(tok(api.TokWord), steps(word("edge"), tok(api.TokWord), sign("."), tok(api.TokWord)))
	block := steps(head, maybe(steps(sign("["), parted(operand, ","), sign("]"))), sign(":"), again(instruction))
	reg := steps(vreg, sign(":"), ways(word("g"), word("x")))
	regs := steps(word("regs"), reg, again(reg), sign(";"))
	return steps(ways(word("func"), word("machine")), tok(api.TokWord), parenthesis, sign("{"), maybe(regs), again(block), sign("}"))
}

// next hands on each way in which what must come may begin: with a token, or being nothing.
func next(s *todo, each func(*todo)) {
	switch {
	case s == nil || s.rule.token != nil:
		each(s)
	case s.rule.ways != nil:
		for _, way := range s.rule.ways {
			next(&todo{way, s.next}, each)
		}
	case s.rule.again != nil:
		next(s.next, each)
		next(&todo{s.rule.again, s}, each)
	case s.rule.later != nil:
		next(&todo{s.rule.later(), s.next}, each)
	default:
		behind := s.next
		for _, step := range slices.Backward(s.rule.steps) {
			behind = &todo{step, behind}
		}
		next(behind, each)
	}
}

// reached is all ways that a text may still go.
type reached []*todo

// begun is where a text begins.
func begun(g *rule) reached {
	return reached{&todo{rule: g}}.spread()
}

// spread is the ways that begin with a token, or end.
func (r reached) spread() reached {
	var all reached
	for _, s := range r {
		next(s, func(one *todo) { all = append(all, one) })
	}
	return all
}

// behind is where a text is behind a token; empty: it does not go on so.
func (r reached) behind(t api.Token) reached {
	var all reached
	for _, s := range r {
		if s != nil && s.rule.token(t) {
			all = append(all, s.next)
		}
	}
	return all.spread()
}

// over tells whether a text has come to its end.
func (r reached) over() bool {
	return slices.Contains(r, nil)
}

// modelEnd goes on with tokens from a place on: it is the place behind the function, true; or of the token that is wrong.
func modelEnd(r reached, l []api.Token, at int) (int, bool) {
	for !r.over() {
		r = r.behind(l[at])
		if len(r) == 0 {
			return at, false
		}
		at++
	}
	return at, true
}

// laid is a token list of pieces; of each one the place is twice its number, so that places are no numbers of tokens.
func laid(pieces ...api.Token) []api.Token {
	l := slices.Clone(pieces)
	l = append(l, api.Token{Kind: api.TokEnd})
	for n := range l {
		l[n].At = 2 * n
	}
	return l
}

// some are tokens of all kinds, and of all words and signs that mean something, but noughts, and such as are told otherwise.
func some(t *testing.T) []api.Token {
	all := tokensOf(t, `func machine regs edge else g x f _ add load store call br brif switch ret copy move spill reload swap 7 "c" "" %1 %2 $g1 $x2 #3 { } ( ) [ ] , : ; = + - * . ..`)
	return all[:len(all)-1]
}

// bare is tokens without their places.
func bare(l []api.Token) []api.Token {
	l = slices.Clone(l)
	for n := range l {
		l[n].At = 0
	}
	return l
}

// asModel holds what Func answers of tokens against the model, which has gone up to a place; a function's tokens must be
// those that are told of it, if they are all that there is to be told.
func asModel(t *testing.T, r reached, l []api.Token, at int, exact bool) {
	t.Helper()
	end, ok := modelEnd(r, l, at)
	got := ofFunc(t, l, 0)
	if !ok {
		wants(t, fmt.Sprint(bare(l)), got, outcome{code: api.ErrSyntax, at: l[end].At})
		return
	}
	if got.code != api.OK || got.next != end {
		t.Fatalf("%v: %d at %d, or the place behind is %d; it must be %d", bare(l), got.code, got.at, got.next, end)
	}
	told := show.Func(got.f)
	again := tokensOf(t, told)
	if exact && !slices.Equal(bare(again[:len(again)-1]), bare(l[:end])) {
		t.Fatalf("%v is read, and told as %s", bare(l), told)
	}
	wants(t, told, ofText(t, told), outcome{f: got.f})
}

// TestModelSamples: the samples are functions' for the model, too.
func TestModelSamples(t *testing.T) {
	g := grammar()
	for _, text := range samples() {
		l := tokensOf(t, text)
		if end, ok := modelEnd(begun(g), l, 0); !ok || end != len(l)-1 {
			t.Fatalf("%s ends at %d, %t", text, end, ok)
		}
		asModel(t, begun(g), l, 0, true)
	}
}

// TestEachPlace: at each place of the samples one token is left out, one is put in, one is turned into another one, two are
// changed about, and the text ended.
func TestEachPlace(t *testing.T) {
	g := grammar()
	for _, text := range samples() {
		l := tokensOf(t, text)
		l = l[:len(l)-1]
		r := begun(g)
		for at := range len(l) + 1 {
			var lists [][]api.Token
			lists = append(lists, l[:at])
			for _, one := range some(t) {
				lists = append(lists, slices.Insert(slices.Clone(l), at, one))
				if at < len(l) {
					changed := slices.Clone(l)
					changed[at] = one
					lists = append(lists, changed)
				}
			}
			if at < len(l) {
				lists = append(lists, slices.Delete(slices.Clone(l), at, at+1), slices.Insert(slices.Clone(l), at, l[at]))
			}
			if at+1 < len(l) {
				changed := slices.Clone(l)
				changed[at], changed[at+1] = changed[at+1], changed[at]
				lists = append(lists, changed)
			}
			for _, list := range lists {
				asModel(t, r, laid(list...), at, true)
			}
			if at < len(l) {
				r = r.behind(l[at])
			}
		}
	}
}

// deepen holds Func against the model at all lists that go on with up to so many tokens of a choice, and one more.
func deepen(t *testing.T, r reached, l []api.Token, choice []api.Token, deep int) {
	t.Helper()
	for _, one := range choice {
		list := append(slices.Clip(l), one)
		behind := r.behind(one)
		if whole := laid(list...); len(behind) == 0 || behind.over() {
			asModel(t, r, whole, len(l), false)
		} else {
			// It ends too early.
			wants(t, fmt.Sprint(bare(whole)), ofFunc(t, whole, 0), outcome{code: api.ErrSyntax, at: whole[len(list)].At})
			if deep > 0 {
				deepen(t, behind, list, choice, deep-1)
			}
		}
	}
}

// TestAllShort: all ways to go on with a few tokens, from several places of a function's text on.
func TestAllShort(t *testing.T) {
	g, all := grammar(), some(t)
	cases := []struct {
		ahead, choice string
		deep          int
	}{
		{"", "", 4},
		{"func f", "", 2},
		{"func f ( ", "( ) , _ 7 - %1 $g1 #2 : {", 5},
		{"func f ( ) { ", "regs edge a %1 : g x ; }", 5},
		{"func f ( ) { ", "regs %1 : g x ; }", 7},
		{"func f ( ) { ", "edge a . : [ ] %1 , }", 6},
		{"func f ( ) { a :", "", 2},
		{"func f ( ) { a :", "edge br a . : [ ; }", 6},
		{"func f ( ) { a :", "%1 $g1 : = copy ; } 7", 7},
		{"func f ( ) { a :", "brif %1 , b . ; }", 8},
		{"func f ( ) { a : switch %1", "[ 7 : b , else ] . ;", 8},
		{"func f ( ) { a : switch", "[ 7 : , ] else b", 6},
		{"func f ( ) { a : call", `"c" ( ) , %1 ; }`, 7},
		{"func f ( ) { a : load", "7 + - ( ) * ; ,", 6},
		{"func f ( ) { a : store 7", ", 7 + - ( ) ; }", 6},
		{"func f ( ) { a : ret", "_ 7 - ( ) * ; }", 6},
	}
	for _, one := range cases {
		choice := all
		if one.choice != "" {
			choice = tokensOf(t, one.choice)
			choice = choice[:len(choice)-1]
		}
		l := tokensOf(t, one.ahead)
		l = l[:len(l)-1]
		r := begun(g)
		for _, token := range l {
			r = r.behind(token)
		}
		deepen(t, r, l, choice, one.deep)
	}
}

// source is numbers that look like any, the same ones each time.
type source struct {
	state uint64
}

// below is the next number, from 0 to below n.
func (s *source) below(n int) int {
	s.state = s.state*6364136223846793005 + 1442695040888963407
	return int(s.state >> 33 % uint64(n))
}

// one is any of some.
func one[T any](s *source, all ...T) T {
	return all[s.below(len(all))]
}

// maker makes functions, and their tokens' texts with them.
type maker struct {
	source
	pieces []string
	// fancy: values may be expressions, and what need not be told is told.
	fancy bool
}

func (m *maker) put(pieces ...string) {
	m.pieces = append(m.pieces, pieces...)
}

// name makes a name.
func (m *maker) name() string {
	if m.below(3) == 0 {
		return one(&m.source, words()...)
	}
	return fmt.Sprintf("b%d", m.below(30))
}

// id makes the number of a virtual register, of a register, or of a slot.
func (m *maker) id() int {
	return one(&m.source, 0, 1, 2, 3, 10, 99, 1000, api.MaxID-1, api.MaxID)
}

// number makes a number.
func (m *maker) number() int {
	if m.below(4) == 0 {
		return one(&m.source, least, least+1, greatest, greatest-1, 0, 1<<31, -1<<31, 1<<32)
	}
	return m.below(200) - 100
}

// plain writes a number: with a minus of its own, or the number that has the least one's digits.
func (m *maker) plain(n int) {
	text := fmt.Sprint(n)
	if digits, ok := strings.CutPrefix(text, "-"); ok {
		m.put("-")
		text = digits
	}
	m.put(text)
}

// factor writes a number as a factor.
func (m *maker) factor(n, deep int) {
	if deep == 0 || m.below(2) == 0 {
		m.plain(n)
		return
	}
	if m.below(2) == 0 {
		m.put("-")
		n = -n
	}
	m.put("(")
	m.sum(n, deep-1)
	m.put(")")
}

// sum writes a number as what stands between parentheses; sums and products go round.
func (m *maker) sum(n, deep int) {
	a, b := m.number(), m.number()
	switch m.below(4) {
	case 0:
		m.factor(n-a, deep)
		m.put("+")
		m.factor(a, deep)
	case 1:
		m.factor(n+a, deep)
		m.put("-")
		m.factor(a, deep)
	case 2:
		m.factor(a, deep)
		m.put("*")
		m.factor(b, deep)
		m.put("-")
		m.factor(a*b-n, deep)
	default:
		m.factor(n, deep)
	}
}

// value makes a value.
func (m *maker) value() int {
	n := m.number()
	if m.fancy && m.below(3) == 0 {
		m.put("(")
		m.sum(n, m.below(4))
		m.put(")")
	} else {
		m.plain(n)
	}
	return n
}

// register makes a virtual register, or a place with one.
func (m *maker) register() api.Operand {
	n, tag := m.id(), m.id()
	switch m.below(4) {
	case 0:
		m.put(fmt.Sprintf("$g%d", n), ":", fmt.Sprintf("%%%d", tag))
		return preg(api.ClassG, n, tag)
	case 1:
		m.put(fmt.Sprintf("$x%d", n), ":", fmt.Sprintf("%%%d", tag))
		return preg(api.ClassX, n, tag)
	case 2:
		m.put(fmt.Sprintf("#%d", n), ":", fmt.Sprintf("%%%d", tag))
		return slot(n, tag)
	}
	m.put(fmt.Sprintf("%%%d", n))
	return vreg(n)
}

// operand makes an operand.
func (m *maker) operand() api.Operand {
	switch m.below(5) {
	case 0:
		m.put("_")
		return nothing()
	case 1:
		return imm(m.value())
	}
	return m.register()
}

// row makes so many operands.
func (m *maker) row(many int) []api.Operand {
	var all []api.Operand
	for n := range many {
		if n > 0 {
			m.put(",")
		}
		all = append(all, m.operand())
	}
	return all
}

// between makes operands between two signs.
func (m *maker) between(open, closed string, many int) []api.Operand {
	m.put(open)
	all := m.row(many)
	m.put(closed)
	return all
}

// label makes where an instruction goes.
func (m *maker) label() string {
	a, b := m.name(), m.name()
	m.put(a)
	if m.below(3) > 0 {
		return a
	}
	m.put(".", b)
	return a + "." + b
}

// called makes whom an instruction calls.
func (m *maker) called() string {
	text, said := "", ""
	for range m.below(api.MaxString + 1) {
		piece := one(&m.source, "a", " ", `\"`, `\\`, `\n`, `\x00`, `\xff`, "%", ";", "//", "}")
		if len(said)+len(piece) > api.MaxString {
			break
		}
		text += piece
		said += strings.NewReplacer(`\"`, `"`, `\\`, `\`, `\n`, "\n", `\x00`, "\x00", `\xff`, "\xff").Replace(piece)
	}
	m.put(`"` + text + `"`)
	return said
}

// instr makes an instruction.
func (m *maker) instr() api.Instr {
	var i api.Instr
	if m.below(2) == 0 {
		i.Dst = m.register()
		m.put("=")
	}
	// Those that have more than operands come more often.
	all := append(slices.Sorted(maps.Keys(names())), "call", "switch", "brif", "load", "store", "br")
	name := one(&m.source, all...)
	i.Op = names()[name]
	m.put(name)
	if i.Op == api.OpCall {
		i.Name = m.called()
		i.Args = m.between("(", ")", m.below(5))
		m.put(";")
		return i
	}
	i.Args = m.row(takes(i.Op))
	m.more(&i)
	m.put(";")
	return i
}

// more makes what an instruction that is no call has behind what it takes.
func (m *maker) more(i *api.Instr) {
	switch i.Op {
	case api.OpLoad, api.OpStore:
		if m.below(2) == 0 {
			ahead := len(m.pieces)
			m.put("+")
			i.Off = m.value()
			if i.Off == 0 && !m.fancy {
				m.pieces = m.pieces[:ahead]
			}
		}
	case api.OpBr:
		i.Labels = []string{m.label()}
	case api.OpBrif:
		for range 2 {
			m.put(",")
			i.Labels = append(i.Labels, m.label())
		}
	case api.OpSwitch:
		m.put("[")
		for range m.below(4) {
			i.Cases = append(i.Cases, m.value())
			m.put(":")
			i.Labels = append(i.Labels, m.label())
			m.put(",")
		}
		m.put("else", ":")
		i.Labels = append(i.Labels, m.label())
		m.put("]")
	}
}

// block makes a block.
func (m *maker) block() api.Block {
	var b api.Block
	a, c := m.name(), m.name()
	if m.below(3) == 0 {
		b.Edge, b.Label = true, a+"."+c
		m.put("edge", a, ".", c)
	} else {
		b.Label = a
		m.put(a)
	}
	if m.below(2) == 0 {
		b.In = m.between("[", "]", 1+m.below(4))
	}
	m.put(":")
	for range m.below(6) {
		b.Code = append(b.Code, m.instr())
	}
	return b
}

// function makes a function.
func (m *maker) function() api.Func {
	f := api.Func{Machine: m.below(2) == 0, Name: m.name()}
	if f.Machine {
		m.put("machine")
	} else {
		m.put("func")
	}
	m.put(f.Name)
	f.Params = m.between("(", ")", m.below(5))
	m.put("{")
	if many := m.below(5); many > 0 {
		m.put("regs")
		for range many {
			r := api.Reg{ID: m.id(), Class: m.below(api.Classes)}
			m.put(fmt.Sprintf("%%%d", r.ID), ":", one(&m.source, "gx"[r.Class:r.Class+1]))
			f.Regs = append(f.Regs, r)
		}
		m.put(";")
	}
	for range m.below(6) {
		f.Blocks = append(f.Blocks, m.block())
	}
	m.put("}")
	return f
}

// made is a function, and its tokens' texts.
func made(number int, fancy bool) (api.Func, []string) {
	m := maker{source: source{uint64(number)}, fancy: fancy}
	for range 9 {
		m.below(2)
	}
	f := m.function()
	return f, m.pieces
}

// TestMade: many functions of both forms, with all that there is, are read of their texts as they were made.
func TestMade(t *testing.T) {
	s := source{1}
	for number := range 3000 {
		f, pieces := made(number, number%3 > 0)
		text := ""
		for _, piece := range pieces {
			text += one(&s, " ", "\n", "\t ", " //;\n", "\r\n") + piece
		}
		wants(t, text, ofText(t, text), outcome{f: f})
		wants(t, text, ofFunc(t, tokensOf(t, ", "+text+" }"), 1), outcome{f: f, next: 1 + len(pieces)})
	}
}

// TestTold: functions that are told are read as they were, and told as the same text (16.4).
func TestTold(t *testing.T) {
	for number := range 3000 {
		f, _ := made(number, true)
		text := show.Func(f)
		wants(t, text, ofText(t, text), outcome{f: f})
		got, err := Text(text)
		if err != nil || show.Func(got) != text {
			t.Fatalf("%s is told otherwise: %v", text, err)
		}
	}
	// Of every operation, with each operand at each place, and each Dst.
	for name := range names() {
		for _, o := range operands() {
			for _, p := range operands() {
				_, i := plain(name, []string{"", ""}, row(o, p))
				for _, dst := range append(row(nothing()), vreg(0), preg(0, 1, 2), preg(1, 3, 4), slot(5, 6)) {
					i.Dst = dst
					f := code(i)
					f.Machine = o.Kind == api.Slot
					wants(t, name, ofText(t, show.Func(f)), outcome{f: f})
				}
			}
		}
	}
	for _, n := range []int{least, least + 1, -1, 1, 7, greatest} {
		for _, i := range []api.Instr{
			{Op: api.OpLoad, Args: row(imm(n)), Off: n}, {Op: api.OpStore, Args: row(imm(n), vreg(1)), Off: n},
			{Op: api.OpSwitch, Args: row(imm(n)), Cases: []int{n, 0, n}, Labels: []string{"a", "a.b", "c", "else"}},
		} {
			wants(t, show.Instr(i), ofText(t, show.Func(code(i))), outcome{f: code(i)})
		}
	}
}

// TestMadeChanged: functions that were made, with a few tokens changed anywhere, are read as the model says.
func TestMadeChanged(t *testing.T) {
	g, all, s := grammar(), some(t), source{2}
	for number := range 4000 {
		_, pieces := made(number, false)
		l := tokensOf(t, strings.Join(pieces, " "))
		l = l[:len(l)-1]
		for range 1 + s.below(3) {
			at := s.below(len(l))
			switch s.below(3) {
			case 0:
				l = slices.Delete(l, at, at+1)
			case 1:
				l = slices.Insert(l, at, one(&s, all...))
			default:
				l[at] = one(&s, all...)
			}
		}
		// Of 2^63 without a minus a value says more than the model: that stands elsewhere.
		if slices.ContainsFunc(l, func(t api.Token) bool { return t.Kind == api.TokNumber && t.N == least }) {
			continue
		}
		asModel(t, begun(g), laid(l...), 0, false)
	}
}
