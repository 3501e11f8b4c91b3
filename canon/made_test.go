package canon

import (
	"reflect"
	"strconv"
	"strings"
	"testing"

	"dyehouse/api"
	"dyehouse/note"
)

// source makes numbers that look as if they came by chance, and always the same ones.
type source struct {
	state uint64
}

// below is a number from 0 to below a bound.
func (s *source) below(bound int) int {
	s.state += 0x9e3779b97f4a7c15
	z := s.state
	z = (z ^ z>>30) * 0xbf58476d1ce4e5b9
	z = (z ^ z>>27) * 0x94d049bb133111eb
	return int((z ^ z>>31) % uint64(bound))
}

// one is one of these.
func one[T any](s *source, list ...T) T {
	return list[s.below(len(list))]
}

// maker makes units; of about so many things (0: none) one is any, and not as it should be.
type maker struct {
	source
	wrong int
}

// any tells whether the next thing is to be any.
func (m *maker) any() bool {
	return m.wrong > 0 && m.below(m.wrong) == 0
}

// number is any number.
func (m *maker) number() int {
	return one(&m.source, append(append(ids(), noIDs()...), 2, 3, 4, 5, -2, 16, 28, 4096)...)
}

// id is a number from 0 to MaxID.
func (m *maker) id() int {
	if m.any() {
		return m.number()
	}
	return one(&m.source, append(ids(), 2, 3, 4, 5, 16, 1023)...)
}

// class is a class.
func (m *maker) class() int {
	if m.any() {
		return m.number()
	}
	return m.below(api.Classes)
}

// count is a number that is not below 0.
func (m *maker) count() int {
	if m.any() {
		return m.number()
	}
	return one(&m.source, 0, 1, 2, 8, 4096, 4097, api.MaxID+1, greatest)
}

// label is a name, or an edge's.
func (m *maker) label(edge bool) string {
	switch {
	case m.any():
		return one(&m.source, noLabels()...)
	case m.any():
		edge = !edge
	}
	if edge {
		return one(&m.source, edges()...)
	}
	return one(&m.source, names()...)
}

// operand is an operand that is plain.
func (m *maker) operand() api.Operand {
	if m.any() {
		return api.Operand{Kind: m.below(6), Class: m.below(3), N: m.number(), Tag: m.number()}
	}
	return one(&m.source, api.Operand{}, vreg(m.id()), preg(m.class(), m.id(), m.id()), slot(m.id(), m.id()), imm(m.number()))
}

// operands are operands, fewer than a bound.
func (m *maker) operands(bound int) []api.Operand {
	var list []api.Operand
	for range m.below(bound) {
		list = append(list, m.operand())
	}
	return list
}

// instr is an instruction as it should be.
func (m *maker) instr() api.Instr {
	s := one(&m.source, shapes()...)
	i := s.right()
	if m.below(2) == 0 {
		i.Dst = one(&m.source, api.Operand{}, vreg(m.id()), preg(m.class(), m.id(), m.id()), slot(m.id(), m.id()))
	}
	if s.args < 0 {
		i.Args = m.operands(12)
		i.Name = one(&m.source, "", "print", "a b", "\"\\\n\x00\xff", strings.Repeat("n", 64))
	}
	for at := range i.Args {
		i.Args[at] = m.operand()
	}
	if s.op == api.OpSwitch {
		for range m.below(5) {
			i.Cases = append(i.Cases, m.number())
			i.Labels = append(i.Labels, "b")
		}
	}
	for at := range i.Labels {
		i.Labels[at] = m.label(m.below(3) == 0)
	}
	if s.op == api.OpLoad || s.op == api.OpStore {
		i.Off = one(&m.source, 0, 0, m.number())
	}
	if m.any() {
		m.spoil(&i)
	}
	return i
}

// spoil changes something of an instruction.
func (m *maker) spoil(i *api.Instr) {
	switch m.below(7) {
	case 0:
		i.Op = m.below(30)
	case 1:
		i.Args = append(i.Args, m.operand())
	case 2:
		i.Args = nil
	case 3:
		i.Labels = append(i.Labels, "b")
	case 4:
		i.Cases = append(i.Cases, 1)
	case 5:
		i.Name = one(&m.source, "", "a", strings.Repeat("n", 65))
	default:
		i.Off = m.number()
	}
}

// function is a function as it should be.
func (m *maker) function() api.Func {
	f := api.Func{Machine: m.below(2) == 0, Name: m.label(false), Params: m.operands(4)}
	for range m.below(4) {
		f.Regs = append(f.Regs, api.Reg{ID: m.id(), Class: m.class()})
	}
	for range m.below(4) {
		b := api.Block{Edge: m.below(3) == 0, In: m.operands(3)}
		b.Label = m.label(b.Edge)
		for range m.below(4) {
			b.Code = append(b.Code, m.instr())
		}
		f.Blocks = append(f.Blocks, b)
	}
	return f
}

// target is a target as it should be.
func (m *maker) target() api.Target {
	t := api.Target{Regs: [2]int{m.count(), m.count()}, Slots: m.count()}
	for range m.below(5) {
		class := m.below(2)
		t.Clobber[class] = append(t.Clobber[class], m.id())
	}
	return t
}

// alloc is an allocation as it should be.
func (m *maker) alloc() api.Alloc {
	a := api.Alloc{Slots: m.count()}
	for range m.below(5) {
		place := one(&m.source, api.Loc{Kind: api.Preg, Class: m.class(), N: m.id()}, api.Loc{Kind: api.Slot, N: m.id()})
		if m.any() {
			place = api.Loc{Kind: m.below(6), Class: m.below(3), N: m.number()}
		}
		a.Segs = append(a.Segs, api.Seg{V: one(&m.source, 1, 2, m.id()), From: m.count(), To: m.count(), At: place})
	}
	return a
}

// unit is a unit as it should be.
func (m *maker) unit() api.Unit {
	u := api.Unit{Target: m.target(), Func: m.function(), Has: m.below(2) == 0}
	if u.Has != m.any() {
		u.Alloc = m.alloc()
	}
	return u
}

// TestMade: what is made as it should be is so, in all its parts, and read of its text as it was.
func TestMade(t *testing.T) {
	m := maker{source: source{1}}
	for range 5000 {
		wantInstr(t, true, m.instr())
	}
	for range 1500 {
		wantFunc(t, true, m.function())
		wantUnit(t, true, m.unit())
	}
}

// TestMadeWrong: what is made, and isn't as it should be here and there, is so just if it is read of its text as it was.
func TestMadeWrong(t *testing.T) {
	m := maker{source: source{2}}
	tally := map[bool]int{}
	for round := range 9000 {
		m.wrong = one(&m.source, 3, 8, 20, 50)
		switch i, f, u := m.instr(), m.function(), m.unit(); round % 3 {
		case 0:
			tally[instrBack(i)]++
			wantInstr(t, instrBack(i), i)
		case 1:
			tally[funcBack(f)]++
			wantFunc(t, funcBack(f), f)
		default:
			tally[unitBack(u)]++
			wantUnit(t, unitBack(u), u)
		}
	}
	if tally[true] < 1000 || tally[false] < 1000 {
		t.Errorf("of those that were made %d are read as they were, and %d are not", tally[true], tally[false])
	}
}

// edit changes a value in one place alone.
type edit struct {
	path string
	do   func(root reflect.Value)
}

// edits are many changes of one place in such a value, at all places, however deep.
func edits[T any](value T) []edit {
	return editsAt(reflect.ValueOf(value), "", func(root reflect.Value) reflect.Value { return root })
}

// editsAt are the changes within v, which stands where reach goes to.
func editsAt(v reflect.Value, path string, reach func(reflect.Value) reflect.Value) []edit {
	var all []edit
	add := func(how string, do func(reflect.Value)) {
		all = append(all, edit{path + how, func(root reflect.Value) { do(reach(root)) }})
	}
	switch v.Kind() {
	case reflect.Bool:
		add("", func(v reflect.Value) { v.SetBool(!v.Bool()) })
	case reflect.Int:
		for _, n := range []int{0, 1, 2, 3, 4, 5, -1, 17, 18, 20, 27, 28, api.MaxID, api.MaxID + 1, 1 << 32, least, greatest} {
			add(" "+strconv.Itoa(n), func(v reflect.Value) { v.SetInt(int64(n)) })
		}
	case reflect.String:
		for _, text := range []string{"", "a", "_", "a.b", "a.b.c", "a b", "A", "0", "else", "regs", "a; ret 0", "a: b", "\x00", long(24), long(25), long(64), long(65)} {
			add(" "+text, func(v reflect.Value) { v.SetString(text) })
		}
	case reflect.Struct:
		for k := range v.NumField() {
			within := func(root reflect.Value) reflect.Value { return reach(root).Field(k) }
			all = append(all, editsAt(v.Field(k), path+"."+v.Type().Field(k).Name, within)...)
		}
	case reflect.Array, reflect.Slice:
		for k := range v.Len() {
			within := func(root reflect.Value) reflect.Value { return reach(root).Index(k) }
			all = append(all, editsAt(v.Index(k), path+"["+strconv.Itoa(k)+"]", within)...)
		}
		if v.Kind() == reflect.Slice {
			listEdits(v.Len(), add)
		}
	}
	return all
}

// listEdits are the changes of a list as a whole.
func listEdits(many int, add func(how string, do func(reflect.Value))) {
	add(" longer", func(v reflect.Value) { v.Set(reflect.Append(v, reflect.Zero(v.Type().Elem()))) })
	if many == 0 {
		add(" without elements", func(v reflect.Value) { v.Set(reflect.MakeSlice(v.Type(), 0, 0)) })
		return
	}
	add(" longer by what it has", func(v reflect.Value) { v.Set(reflect.Append(v, v.Index(0))) })
	add(" shorter", func(v reflect.Value) { v.Set(v.Slice(0, many-1)) })
	add(" without its first", func(v reflect.Value) { v.Set(v.Slice(1, many)) })
	add(" emptied", func(v reflect.Value) { v.Set(reflect.Zero(v.Type())) })
}

// eachEdit: with each change of one place a value is so just if it is read of its text as it was.
func eachEdit[T any](t *testing.T, value T, tally map[bool]int, ask, back func(T) bool) {
	t.Helper()
	for _, e := range edits(value) {
		changed := twin(value)
		e.do(reflect.ValueOf(&changed).Elem())
		want := back(changed)
		tally[want]++
		if got := ask(changed); got != want {
			t.Fatalf("changed at %s: %t; read as it was: %t, of %s", e.path, got, want, shown(changed))
		}
	}
}

// TestChanged: instructions, functions and units that are as they should be, changed at one place.
func TestChanged(t *testing.T) {
	m := maker{source: source{3}}
	tally := map[bool]int{}
	for _, i := range append(rights(), labelled()...) {
		eachEdit(t, i, tally, Instr, instrBack)
	}
	for _, u := range units()[:6] {
		eachEdit(t, u, tally, Unit, unitBack)
	}
	eachEdit(t, units()[8], tally, Unit, unitBack)
	for range 150 {
		eachEdit(t, m.instr(), tally, Instr, instrBack)
	}
	for range 15 {
		eachEdit(t, m.function(), tally, Func, funcBack)
		eachEdit(t, m.unit(), tally, Unit, unitBack)
	}
	if tally[true] < 5000 || tally[false] < 5000 {
		t.Errorf("of those that were changed %d are read as they were, and %d are not", tally[true], tally[false])
	}
}

// TestParts: a unit is so just if its function is, its text is not too long, and what it has beside that is as it should be.
func TestParts(t *testing.T) {
	m := maker{source: source{4}}
	for range 2000 {
		m.wrong = 12
		f := m.function()
		m.wrong = 0
		u := m.unit()
		if !Unit(u) {
			t.Fatalf("%s is not so", shown(u))
		}
		u.Func = f
		if Unit(u) != Func(f) || len(note.Unit(u)) > api.MaxText {
			t.Fatalf("of %s another thing is told than of its function", shown(u))
		}
	}
}
