package unit

import (
	"fmt"
	"slices"
	"strings"
	"testing"

	"dyehouse/api"
	"dyehouse/fault"
	"dyehouse/ir"
	"dyehouse/note"
	"dyehouse/parse"
)

// The model: the chapter's grammar of a target and of an allocation as a table of places, between which tokens go. The
// function between them is layer 16's.

// The places: ahead of a part, within it, and behind it.
const (
	begin = iota
	afterTarget
	afterG
	hasG
	afterX
	hasX
	afterSlots
	hasSlots
	afterClobber
	hasClobber
	afterAlloc
	allocSlots
	hasAllocSlots
	ahead // of a row, or the brace
	hasV
	afterColon
	hasFrom
	afterPoints
	hasTo
	hasPlace
	over
)

// way goes by a token from one place to another one. A token is told by its text, if it is a word or a sign, and else by its
// kind: N, V, P or S.
type way struct {
	from int
	by   string
	to   int
}

// targetWays are the ways through a target.
func targetWays() []way {
	return []way{
		{begin, "target", afterTarget}, {afterTarget, "g", afterG}, {afterG, "N", hasG}, {hasG, "x", afterX}, {afterX, "N", hasX}, {hasX, "slots", afterSlots}, {afterSlots, "N", hasSlots},
		{hasSlots, ";", over}, {hasSlots, "clobber", afterClobber}, {afterClobber, "P", hasClobber}, {hasClobber, "P", hasClobber}, {hasClobber, ";", over},
	}
}

// allocWays are the ways through an allocation.
func allocWays() []way {
	return []way{
		{begin, "alloc", afterAlloc}, {afterAlloc, "slots", allocSlots}, {allocSlots, "N", hasAllocSlots}, {hasAllocSlots, "{", ahead}, {ahead, "}", over}, {ahead, "V", hasV}, {hasV, ":", afterColon},
		{afterColon, "N", hasFrom}, {hasFrom, "..", afterPoints}, {afterPoints, "N", hasTo}, {hasTo, "P", hasPlace}, {hasTo, "S", hasPlace}, {hasPlace, ",", afterColon}, {hasPlace, ";", ahead},
	}
}

// told is by what the table tells a token.
func told(t api.Token) string {
	switch t.Kind {
	case api.TokWord, api.TokSign:
		return t.Text
	case api.TokNumber:
		return "N"
	case api.TokVreg:
		return "V"
	case api.TokPreg:
		return "P"
	case api.TokSlot:
		return "S"
	}
	return "another"
}

// model is what Text must answer of tokens.
type model struct {
	outcome
	l  []api.Token
	at int
}

// modelOf is what Text must answer of a text's tokens, with which nothing is wrong.
func modelOf(l []api.Token) outcome {
	m := model{l: l}
	if told(l[0]) != "target" {
		m.u.Target = usual()
	} else if !m.part("target", targetWays()) {
		return m.wrong()
	}
	f, next, err := parse.Func(l, m.at)
	if err != nil {
		m.path, m.code, m.outcome.at = "func", fault.Of(err), fault.At(err)
		return m.wrong()
	}
	m.u.Func, m.at = f, next
	m.u.Has = told(l[m.at]) == "alloc"
	if m.u.Has && !m.part("alloc", allocWays()) {
		return m.wrong()
	}
	if l[m.at].Kind != api.TokEnd {
		m.path, m.code, m.outcome.at = "unit", api.ErrSyntax, l[m.at].At
		return m.wrong()
	}
	return m.outcome
}

// wrong is the outcome, without a unit.
func (m *model) wrong() outcome {
	m.u = api.Unit{}
	return m.outcome
}

// part goes through the tokens of a part; false: it does not go on.
func (m *model) part(name string, ways []way) bool {
	for place := begin; place != over; m.at++ {
		t := m.l[m.at]
		n := slices.IndexFunc(ways, func(w way) bool { return w.from == place && w.by == told(t) })
		if n < 0 || t.N == least {
			m.path, m.code, m.outcome.at = name, api.ErrSyntax, t.At
			if n >= 0 {
				m.code = api.ErrRange
			}
			return false
		}
		place = ways[n].to
		m.has(place, t)
	}
	return true
}

// has brings a token to the unit, by the place behind it.
func (m *model) has(place int, t api.Token) {
	segs := m.u.Alloc.Segs
	last := len(segs) - 1
	switch place {
	case hasG:
		m.u.Target.Regs[0] = t.N
	case hasX:
		m.u.Target.Regs[1] = t.N
	case hasSlots:
		m.u.Target.Slots = t.N
	case hasClobber:
		m.u.Target.Clobber[t.Class] = append(m.u.Target.Clobber[t.Class], t.N)
	case hasAllocSlots:
		m.u.Alloc.Slots = t.N
	case hasV:
		// The next segment has it, and those behind have the one's ahead of them.
		m.u.Alloc.Segs = append(segs, api.Seg{V: t.N, From: -1})
	case hasFrom:
		if segs[last].From >= 0 {
			m.u.Alloc.Segs = append(segs, api.Seg{V: segs[last].V, From: t.N})
		} else {
			segs[last].From = t.N
		}
	case hasTo:
		segs[last].To = t.N
	case hasPlace:
		segs[last].At = api.Loc{Kind: api.Preg, Class: t.Class, N: t.N}
		if t.Kind == api.TokSlot {
			segs[last].At = api.Loc{Kind: api.Slot, N: t.N}
		}
	}
}

// some are tokens of all kinds, and of all words and signs that mean something.
func some() []string {
	return strings.Split(`func machine target alloc clobber slots g x f a ret 7 0 `+tooGreat+` "c" "" %1 %2 $g1 $x2 #3 { } ( ) [ ] , : ; = + - * . ..`, " ")
}

// asModel holds what Text answers of pieces of a text against the model.
func asModel(t *testing.T, pieces []string) outcome {
	t.Helper()
	text := strings.Join(pieces, " ")
	want := modelOf(tokensOf(t, text))
	wants(t, text, want)
	return want
}

// TestModelWholes: the model reads what is right, too, and finds the parts in it.
func TestModelWholes(t *testing.T) {
	for _, text := range wholes() {
		want := asModel(t, piecesOf(t, text))
		f := want.u.Func
		if want.path != "" || want.u.Has != strings.Contains(text, "alloc") || !strings.Contains(text, "func "+f.Name) && !strings.Contains(text, "machine "+f.Name) {
			t.Errorf("%s: the model says %+v", short(text), want)
		}
	}
	for target, m := range targets() {
		for alloc, a := range allocs() {
			want := modelOf(tokensOf(t, target+"func f() { }"+alloc))
			if !ir.SameUnit(want.u, api.Unit{Target: m, Func: plainFunc(), Has: true, Alloc: a}) {
				t.Errorf("%s, %s: the model says %+v", target, alloc, want)
			}
		}
	}
}

// TestEachPlace: at each place of the wholes one token is left out, one is put in, one is turned into another one, one comes
// twice, two are changed about, and the text is ended.
func TestEachPlace(t *testing.T) {
	for _, text := range wholes() {
		pieces := piecesOf(t, text)
		for at := range len(pieces) + 1 {
			asModel(t, pieces[:at])
			asModel(t, pieces[at:])
			for _, one := range some() {
				asModel(t, slices.Insert(slices.Clone(pieces), at, one))
				asModel(t, append(slices.Clone(pieces[:at]), one))
				if at < len(pieces) {
					asModel(t, slices.Replace(slices.Clone(pieces), at, at+1, one))
				}
			}
			if at < len(pieces) {
				asModel(t, slices.Delete(slices.Clone(pieces), at, at+1))
				asModel(t, slices.Insert(slices.Clone(pieces), at, pieces[at]))
			}
			if at+1 < len(pieces) {
				changed := slices.Clone(pieces)
				changed[at], changed[at+1] = changed[at+1], changed[at]
				asModel(t, changed)
			}
		}
	}
}

// deepen holds Text against the model at all ways to go on with up to so many pieces of a choice.
func deepen(t *testing.T, pieces, choice []string, deep int) {
	t.Helper()
	want := asModel(t, pieces)
	if deep == 0 {
		return
	}
	// If more was wrong than where it ends, that is so whatever is behind.
	if want.path == "" || want.at == len(strings.Join(pieces, " ")) {
		for _, one := range choice {
			deepen(t, append(slices.Clip(pieces), one), choice, deep-1)
		}
	}
}

// TestAllShort: all ways to go on with a few tokens, from several places of a unit's text on.
func TestAllShort(t *testing.T) {
	cases := []struct {
		ahead, choice string
		deep          int
	}{
		{"", "", 3},
		{"", "target g 7 x slots ; clobber $g1 func f ( ) { }", 14},
		{"target g 8 x 4", "slots 7 " + tooGreat + " - clobber $g1 $x2 #3 ; func", 8},
		{"target g 8 x 4 slots 9", "clobber $g1 $x1 ; func", 8},
		{"target g 8 x 4 slots 9", "", 3},
		{"target g 8 x 4 slots 9 ;", "", 2},
		{"func f ( ) { }", "", 2},
		{"func f ( ) { }", "alloc slots 1 { } %2 : ;", 7},
		{"func f ( ) { } alloc slots 1 {", "", 2},
		{"func f ( ) { } alloc slots 1 {", "%2 : 4 .. $g1 , ; }", 9},
		{"func f ( ) { } alloc slots 1 { %2 :", "0 " + tooGreat + " - .. . #1 $x1 , ; }", 8},
		{"func f ( ) { } alloc slots 1 { %2 : 0 .. 4", "", 3},
		{"func f ( ) { } alloc slots 1 { %2 : 0 .. 4 $g1 ; }", "", 2},
	}
	for _, one := range cases {
		choice := some()
		if one.choice != "" {
			choice = strings.Fields(one.choice)
		}
		deepen(t, strings.Fields(one.ahead), choice, one.deep)
	}
}

// source is numbers that look like any, the same ones each time.
type source struct {
	state uint64
}

// below is the next number, from 0 to below n.
func (s *source) below(n int) int {
	s.state = s.state*6364136223846793005 + 1442695040888963407
	return int(s.state >> 33 % uint64(n))
}

// one is any of some.
func one[T any](s *source, all ...T) T {
	return all[s.below(len(all))]
}

// maker makes units, and the pieces of their texts with them.
type maker struct {
	source
	pieces []string
	// as layer 15 tells it: with a target, the registers of it class by class, and rows of one virtual register each.
	exact bool
}

func (m *maker) put(pieces ...string) {
	m.pieces = append(m.pieces, pieces...)
}

// number makes a number, and writes it.
func (m *maker) number() int {
	n := m.below(20)
	if m.below(4) == 0 {
		n = one(&m.source, greatest, greatest-1, 1<<31, 4096, 0)
	}
	m.put(fmt.Sprint(n))
	return n
}

// id makes the number of a register, of a slot, or of a virtual register.
func (m *maker) id() int {
	return one(&m.source, 0, 1, 2, 3, 4, 15, 16, 1023, api.MaxID-1, api.MaxID)
}

// target makes a target.
func (m *maker) target() api.Target {
	if !m.exact && m.below(4) == 0 {
		return usual()
	}
	var t api.Target
	m.put("target", "g")
	t.Regs[0] = m.number()
	m.put("x")
	t.Regs[1] = m.number()
	m.put("slots")
	t.Slots = m.number()
	if many := m.below(6); many > 0 {
		m.put("clobber")
		class := 0
		for range many {
			if m.exact {
				class = max(class, m.below(2))
			} else {
				class = m.below(2)
			}
			n := m.id()
			t.Clobber[class] = append(t.Clobber[class], n)
			m.put(fmt.Sprintf("$%c%d", "gx"[class], n))
		}
	}
	m.put(";")
	return t
}

// function makes one of the functions that there are.
func (m *maker) function(t *testing.T) api.Func {
	text := one(&m.source, samples()...)
	f, err := parse.Text(text)
	if err != nil {
		t.Fatal(err)
	}
	m.put(piecesOf(t, text)...)
	return f
}

// place makes a place.
func (m *maker) place() api.Loc {
	n := m.id()
	at := one(&m.source, reg(0, n), reg(1, n), slot(n))
	if at.Kind == api.Slot {
		m.put(fmt.Sprintf("#%d", n))
	} else {
		m.put(fmt.Sprintf("$%c%d", "gx"[at.Class], n))
	}
	return at
}

// alloc makes an allocation.
func (m *maker) alloc() api.Alloc {
	var a api.Alloc
	m.put("alloc", "slots")
	a.Slots = m.number()
	m.put("{")
	for range m.below(5) {
		v := m.id()
		if m.exact && len(a.Segs) > 0 && a.Segs[len(a.Segs)-1].V == v {
			continue
		}
		m.put(fmt.Sprintf("%%%d", v), ":")
		for at := range 1 + m.below(3) {
			if at > 0 {
				m.put(",")
			}
			from := m.number()
			m.put("..")
			a.Segs = append(a.Segs, api.Seg{V: v, From: from, To: m.number(), At: m.place()})
		}
		m.put(";")
	}
	m.put("}")
	return a
}

// made is a unit, and the pieces of its text.
func made(t *testing.T, number int, exact bool) (api.Unit, []string) {
	m := maker{source: source{uint64(number)}, exact: exact}
	for range 9 {
		m.below(2)
	}
	u := api.Unit{Target: m.target(), Func: m.function(t)}
	if m.below(3) > 0 {
		u.Has = true
		u.Alloc = m.alloc()
	}
	return u, m.pieces
}

// TestMade: many units with all that there is are read of their texts as they were made.
func TestMade(t *testing.T) {
	s := source{1}
	for number := range 3000 {
		u, pieces := made(t, number, false)
		text := ""
		for _, piece := range pieces {
			text += one(&s, " ", "\n", "\t ", " //;\n", "\r\n") + piece
		}
		isRight(t, text, u)
	}
}

// TestMadeChanged: units that were made, with a few tokens changed anywhere, are read as the model says.
func TestMadeChanged(t *testing.T) {
	s := source{2}
	for number := range 6000 {
		_, pieces := made(t, number, false)
		for range 1 + s.below(3) {
			at := s.below(len(pieces))
			switch s.below(3) {
			case 0:
				pieces = slices.Delete(pieces, at, at+1)
			case 1:
				pieces = slices.Insert(pieces, at, one(&s, some()...))
			default:
				pieces[at] = one(&s, some()...)
			}
		}
		asModel(t, pieces)
	}
}

// thereAndBack: a unit that is told is read as it was, and told again as the same text (17.3).
func thereAndBack(t *testing.T, u api.Unit) {
	t.Helper()
	text := note.Unit(u)
	isRight(t, text, u)
	if again := note.Unit(ofText(t, text).u); again != text {
		t.Errorf("%s is told again as %s", short(text), short(again))
	}
}

// TestTold: units that are told are read as they were: with every kind of target, with an allocation and without.
func TestTold(t *testing.T) {
	for _, f := range funcs(t) {
		for _, m := range targets() {
			thereAndBack(t, unitOf(m, f))
			thereAndBack(t, allocated(m, f, 0))
			for _, a := range allocs() {
				thereAndBack(t, api.Unit{Target: m, Func: f, Has: true, Alloc: a})
			}
		}
		thereAndBack(t, unitOf(usual(), f))
		thereAndBack(t, allocated(usual(), f, api.MaxSlots))
	}
	for number := range 3000 {
		u, _ := made(t, number, number%2 == 0)
		thereAndBack(t, u)
	}
}

// TestToldTokens: what is told of a unit that was read has the very tokens of which it was read, if these are all told.
func TestToldTokens(t *testing.T) {
	for number := range 1000 {
		u, pieces := made(t, number, true)
		text := note.Unit(ofText(t, strings.Join(pieces, " ")).u)
		plain := strings.ReplaceAll(strings.Join(piecesOf(t, text), " "), "- ", "-")
		want := strings.ReplaceAll(strings.Join(pieces, " "), "- ", "-")
		// The one expression of the samples is told as what it comes to.
		want = strings.ReplaceAll(want, "( 1 + 2 )", "3")
		if plain != want || !ir.SameUnit(ofText(t, text).u, u) {
			t.Fatalf("%s is told as %s", want, plain)
		}
	}
}

// TestReadTold: what is read is told, and read again as it was, and told again as the same text.
func TestReadTold(t *testing.T) {
	texts := wholes()
	for target := range targets() {
		for alloc := range allocs() {
			texts = append(texts, target+"func f() { }"+alloc, "machine f() { }"+alloc)
		}
		texts = append(texts, target+"func f() { }")
	}
	for number := range 1000 {
		_, pieces := made(t, number, false)
		texts = append(texts, strings.Join(pieces, " // \n"))
	}
	for _, text := range texts {
		got := ofText(t, text)
		if got.path != "" {
			t.Fatalf("%s: %d at %d", short(text), got.code, got.at)
		}
		thereAndBack(t, got.u)
	}
}

// TestToldOtherwise: of units that have more than their texts tell comes what these tell, or what is wrong with them.
func TestToldOtherwise(t *testing.T) {
	f := plainFunc()
	told := note.Unit(api.Unit{Target: usual(), Func: f, Alloc: api.Alloc{Slots: 3, Segs: []api.Seg{seg(1, 2, 3, slot(4))}}})
	isRight(t, told, unitOf(usual(), f))
	told = note.Unit(allocated(usual(), f, 1, seg(1, 2, 3, api.Loc{Kind: api.Slot, Class: 1, N: 4})))
	isRight(t, told, allocated(usual(), f, 1, seg(1, 2, 3, slot(4))))
	for _, u := range []api.Unit{
		unitOf(machine(-1, nil, 0, nil, 0), f), unitOf(machine(0, nil, -1, nil, 0), f), unitOf(machine(0, nil, 0, nil, least), f),
		allocated(usual(), f, -1), allocated(usual(), f, least), allocated(usual(), f, 0, seg(1, -1, 0, slot(0))), allocated(usual(), f, 0, seg(1, 0, least, slot(0))),
	} {
		text := note.Unit(u)
		part := "target"
		if u.Has {
			part = "alloc"
		}
		wants(t, text, outcome{path: part, code: api.ErrSyntax, at: strings.Index(text, "-")})
	}
	text := note.Unit(allocated(usual(), f, 0, seg(1, 2, 3, api.Loc{})))
	wants(t, text, outcome{path: "alloc", code: api.ErrSyntax, at: strings.Index(text[1:], ";\n}") + 1})
	for _, u := range []api.Unit{unitOf(machine(0, []int{-1}, 0, nil, 0), f), allocated(usual(), f, 0, seg(-1, 2, 3, slot(0))), allocated(usual(), f, 0, seg(api.MaxID+1, 2, 3, slot(0)))} {
		if got := ofText(t, note.Unit(u)); got.path != "text" {
			t.Errorf("%s: %+v", note.Unit(u), got)
		}
	}
}
