package ir

import (
	"math"
	"reflect"
	"regexp"
	"slices"
	"strconv"
	"strings"
	"testing"

	"dyehouse/api"
)

const (
	least    = math.MinInt64
	greatest = math.MaxInt64
)

func vreg(n int) api.Operand { return api.Operand{Kind: api.Vreg, N: n} }
func imm(n int) api.Operand  { return api.Operand{Kind: api.Imm, N: n} }
func slot(n, tag int) api.Operand {
	return api.Operand{Kind: api.Slot, N: n, Tag: tag}
}
func preg(class, n, tag int) api.Operand {
	return api.Operand{Kind: api.Preg, Class: class, N: n, Tag: tag}
}

// roomy is a list with memory behind its length, in which there are other elements.
func roomy[T any](behind T, list ...T) []T {
	all := append(slices.Clone(list), behind, behind, behind)
	return all[:len(list)]
}

// instr is an instruction that has all fields, and in each list more than one element.
func instr(n int) api.Instr {
	return api.Instr{
		Op:     api.OpSwitch,
		Dst:    preg(api.ClassX, n+1, n+2),
		Args:   roomy(imm(99), slot(n+3, n+4), vreg(n+5), preg(api.ClassX, n+6, n+7)),
		Name:   "name" + strconv.Itoa(n),
		Off:    n + 8,
		Labels: roomy("behind", "to"+strconv.Itoa(n), "or", "else"),
		Cases:  roomy(99, n+9, n+10),
	}
}

// function is a function that has all fields, and in each list more than one element.
func function() api.Func {
	behind := instr(900)
	first := api.Block{
		Label: "a",
		Edge:  true,
		In:    roomy(imm(98), preg(api.ClassX, 11, 12), slot(13, 14)),
		Code:  roomy(behind, instr(100), instr(200)),
	}
	second := api.Block{
		Label: "b",
		In:    roomy(imm(97), slot(15, 16), preg(api.ClassX, 17, 18)),
		Code:  roomy(behind, instr(300), instr(400), instr(500)),
	}
	return api.Func{
		Machine: true,
		Name:    "f",
		Regs:    roomy(api.Reg{ID: 96}, api.Reg{ID: 1, Class: 1}, api.Reg{ID: 2, Class: 0}),
		Params:  roomy(imm(95), preg(api.ClassX, 21, 22), vreg(23)),
		Blocks:  roomy(api.Block{Label: "behind", Code: []api.Instr{behind}}, first, second),
	}
}

// allocation is an allocation that has all fields, and more than one segment.
func allocation() api.Alloc {
	return api.Alloc{Slots: 3, Segs: roomy(api.Seg{V: 94},
		api.Seg{V: 1, From: 2, To: 5, At: api.Loc{Kind: api.Preg, Class: 1, N: 4}},
		api.Seg{V: 1, From: 5, To: 9, At: api.Loc{Kind: api.Slot, N: 2}},
	)}
}

// machine is a target that has all fields, and in each list more than one element.
func machine() api.Target {
	return api.Target{
		Regs:    [api.Classes]int{4, 3},
		Clobber: [api.Classes][]int{roomy(93, 0, 2), roomy(92, 1, 2)},
		Slots:   8,
	}
}

// unit is a unit that has all fields.
func unit() api.Unit {
	return api.Unit{Target: machine(), Func: function(), Has: true, Alloc: allocation()}
}

// twin is the same value, and the same behind the lists' lengths, all in memory of its own.
func twin[T any](value T) T {
	return twinOf(reflect.ValueOf(value)).Interface().(T)
}

func twinOf(v reflect.Value) reflect.Value {
	mine := reflect.New(v.Type()).Elem()
	switch v.Kind() {
	case reflect.Struct:
		for k := range v.NumField() {
			mine.Field(k).Set(twinOf(v.Field(k)))
		}
	case reflect.Array:
		for k := range v.Len() {
			mine.Index(k).Set(twinOf(v.Index(k)))
		}
	case reflect.Slice:
		if v.IsNil() {
			return mine
		}
		all := v.Slice3(0, v.Cap(), v.Cap())
		mine.Set(reflect.MakeSlice(v.Type(), v.Cap(), v.Cap()))
		for k := range all.Len() {
			mine.Index(k).Set(twinOf(all.Index(k)))
		}
		return mine.Slice(0, v.Len())
	default:
		mine.Set(v)
	}
	return mine
}

// alike tells whether two values are the same, also behind their lists' lengths, if that is asked for; a list that is
// nil and one without elements are.
func alike[T any](a, b T, behind bool) bool {
	return alikeOf(reflect.ValueOf(a), reflect.ValueOf(b), behind)
}

func alikeOf(a, b reflect.Value, behind bool) bool {
	switch a.Kind() {
	case reflect.Struct:
		for k := range a.NumField() {
			if !alikeOf(a.Field(k), b.Field(k), behind) {
				return false
			}
		}
		return true
	case reflect.Slice:
		if a.Len() != b.Len() || behind && a.Cap() != b.Cap() {
			return false
		}
		if behind {
			a, b = a.Slice(0, a.Cap()), b.Slice(0, b.Cap())
		}
		fallthrough
	case reflect.Array:
		for k := range a.Len() {
			if !alikeOf(a.Index(k), b.Index(k), behind) {
				return false
			}
		}
		return true
	}
	return a.Interface() == b.Interface()
}

// edit changes a value in one place alone.
type edit struct {
	path string
	do   func(root reflect.Value)
}

// edits are all changes of one place in such a value, however deep.
func edits[T any](value T) []edit {
	root := reflect.New(reflect.TypeFor[T]()).Elem()
	root.Set(reflect.ValueOf(value))
	return editsAt(root, "", func(root reflect.Value) reflect.Value { return root })
}

// editsAt are the changes within v, which stands where reach goes to.
func editsAt(v reflect.Value, path string, reach func(reflect.Value) reflect.Value) []edit {
	var all []edit
	add := func(how string, do func(reflect.Value)) {
		all = append(all, edit{path + how, func(root reflect.Value) { do(reach(root)) }})
	}
	switch v.Kind() {
	case reflect.Bool:
		add("", func(v reflect.Value) { v.SetBool(!v.Bool()) })
	case reflect.Int:
		for _, bit := range []int{0, 7, 31, 32, 63} {
			add("", func(v reflect.Value) { v.SetInt(v.Int() ^ int64(uint64(1)<<bit)) })
		}
	case reflect.String:
		add("", func(v reflect.Value) { v.SetString(v.String() + "\x00") })
		add("", func(v reflect.Value) { v.SetString("x" + v.String()) })
		if text := v.String(); text != "" {
			add("", func(v reflect.Value) { v.SetString("") })
			add("", func(v reflect.Value) { v.SetString(text[1:]) })
			add("", func(v reflect.Value) { v.SetString(strings.ToUpper(text[:1]) + text[1:]) })
		}
	case reflect.Struct:
		for k := range v.NumField() {
			within := func(root reflect.Value) reflect.Value { return reach(root).Field(k) }
			all = append(all, editsAt(v.Field(k), path+"."+v.Type().Field(k).Name, within)...)
		}
	case reflect.Array, reflect.Slice:
		for k := range v.Len() {
			within := func(root reflect.Value) reflect.Value { return reach(root).Index(k) }
			all = append(all, editsAt(v.Index(k), path+"["+strconv.Itoa(k)+"]", within)...)
		}
		if v.Kind() == reflect.Slice {
			listEdits(v, add)
		}
	}
	return all
}

// listEdits are the changes of a list as a whole.
func listEdits(v reflect.Value, add func(how string, do func(reflect.Value))) {
	add(" longer", func(v reflect.Value) { v.Set(reflect.Append(v, reflect.Zero(v.Type().Elem()))) })
	if v.Len() == 0 {
		return
	}
	add(" longer by what it has", func(v reflect.Value) { v.Set(reflect.Append(v, v.Index(0))) })
	add(" shorter", func(v reflect.Value) { v.Set(v.Slice(0, v.Len()-1)) })
	add(" without its first", func(v reflect.Value) { v.Set(v.Slice(1, v.Len())) })
	add(" emptied", func(v reflect.Value) { v.Set(reflect.Zero(v.Type())) })
	for j := range v.Len() {
		for i := range j {
			if !alikeOf(v.Index(i), v.Index(j), false) {
				add(" changed about", func(v reflect.Value) {
					a, b := twinOf(v.Index(i)), twinOf(v.Index(j))
					v.Index(i).Set(b)
					v.Index(j).Set(a)
				})
			}
		}
	}
}

// edited is a value of its own, with a change.
func edited[T any](value T, e edit) T {
	mine := twin(value)
	e.do(reflect.ValueOf(&mine).Elem())
	return mine
}

// paths are the places that changes are made at, without the elements' numbers, each once, rising.
func paths(all []edit) []string {
	number := regexp.MustCompile(`\[[0-9]+\]`)
	var l []string
	for _, e := range all {
		l = append(l, number.ReplaceAllString(e.path, "[]"))
	}
	slices.Sort(l)
	return slices.Compact(l)
}

// under are the paths of a part, as they are within the whole.
func under(where string, of []string) []string {
	var l []string
	for _, path := range of {
		l = append(l, where+path)
	}
	return l
}

// listed are the changes of a list as a whole, and those of its elements.
func listed(where string, element []string) []string {
	how := []string{" longer", " longer by what it has", " shorter", " without its first", " emptied", " changed about"}
	return append(under(where, how), under(where+"[]", element)...)
}

// The places that a difference may be at, written out, to see that none is left out below.
func operandPaths() []string { return []string{".Kind", ".Class", ".N", ".Tag"} }

func instrPaths() []string {
	return slices.Concat([]string{".Op", ".Name", ".Off"}, under(".Dst", operandPaths()),
		listed(".Args", operandPaths()), listed(".Labels", []string{""}), listed(".Cases", []string{""}))
}

func blockPaths() []string {
	return slices.Concat([]string{".Label", ".Edge"}, listed(".In", operandPaths()), listed(".Code", instrPaths()))
}

func funcPaths() []string {
	return slices.Concat([]string{".Machine", ".Name"}, listed(".Regs", []string{".ID", ".Class"}),
		listed(".Params", operandPaths()), listed(".Blocks", blockPaths()))
}

func allocPaths() []string {
	seg := []string{".V", ".From", ".To", ".At.Kind", ".At.Class", ".At.N"}
	return append(listed(".Segs", seg), ".Slots")
}

func targetPaths() []string {
	return append(listed(".Clobber[]", []string{""}), ".Regs[]", ".Slots")
}

func unitPaths() []string {
	return slices.Concat([]string{".Has"}, under(".Target", targetPaths()), under(".Func", funcPaths()), under(".Alloc", allocPaths()))
}

// sameTest asks of a call whether two values that are alike are the same, and two that differ in one place alone are not.
func sameTest[T any](t *testing.T, same func(a, b T) bool, value T, want []string) {
	t.Helper()
	all := edits(value)
	slices.Sort(want)
	if got := paths(all); !slices.Equal(got, want) {
		t.Fatalf("changed are %q, not %q", got, want)
	}
	var none T
	samples := []T{value, none, withoutRoom(value)}
	for _, e := range all {
		samples = append(samples, edited(value, e))
	}
	kept := twin(samples)
	for n, x := range samples {
		if !same(x, x) || !same(x, twin(x)) || !same(withoutRoom(x), x) || !same(x, withoutRoom(x)) {
			t.Errorf("sample %d is not the same as itself: %v", n, x)
		}
	}
	for _, x := range []T{value, none} {
		for _, e := range edits(x) {
			if y := edited(x, e); same(x, y) || same(y, x) {
				t.Errorf("%s: %v and %v are the same", e.path, x, y)
			}
		}
	}
	if !alike(samples, kept, true) {
		t.Error("what was handed in is changed")
	}
}

// withoutRoom is the same value, with nothing behind the lists' lengths, and nil for lists without elements.
func withoutRoom[T any](value T) T {
	mine := twin(value)
	trim(reflect.ValueOf(&mine).Elem(), false)
	return mine
}

// trim cuts the memory behind the lists' lengths off; of lists without elements it makes such as are not nil, or nil.
func trim(v reflect.Value, empty bool) {
	switch v.Kind() {
	case reflect.Struct:
		for k := range v.NumField() {
			trim(v.Field(k), empty)
		}
	case reflect.Array:
		for k := range v.Len() {
			trim(v.Index(k), empty)
		}
	case reflect.Slice:
		switch {
		case v.Len() > 0:
			v.Set(v.Slice3(0, v.Len(), v.Len()))
			for k := range v.Len() {
				trim(v.Index(k), empty)
			}
		case empty:
			v.Set(reflect.MakeSlice(v.Type(), 0, 0))
		default:
			v.Set(reflect.Zero(v.Type()))
		}
	}
}

// TestSame: 12.1.
func TestSame(t *testing.T) {
	sameTest(t, SameInstr, instr(0), instrPaths())
	sameTest(t, Same, function(), funcPaths())
	sameTest(t, SameAlloc, allocation(), allocPaths())
	sameTest(t, SameTarget, machine(), targetPaths())
	sameTest(t, SameUnit, unit(), unitPaths())
}

// emptyTest asks whether values without elements are the same, whichever of their lists are nil.
func emptyTest[T any](t *testing.T, same func(a, b T) bool, value T) {
	t.Helper()
	a, b := twin(value), twin(value)
	trim(reflect.ValueOf(&a).Elem(), false)
	trim(reflect.ValueOf(&b).Elem(), true)
	if reflect.DeepEqual(a, b) {
		t.Errorf("there is no list without elements: %v", value)
	}
	for _, x := range []T{a, b, value} {
		for _, y := range []T{a, b, value} {
			if !same(x, y) {
				t.Errorf("%v and %v are not the same", x, y)
			}
		}
	}
}

// TestSameEmpty: a list that is nil and one without elements are the same, on either side, however deep (R3); what lies
// behind such a one's length does not count.
func TestSameEmpty(t *testing.T) {
	room := api.Instr{Args: roomy(imm(1)), Labels: roomy("x"), Cases: roomy(1)}
	emptyTest(t, SameInstr, api.Instr{})
	emptyTest(t, SameInstr, room)
	for _, i := range []api.Instr{{}, room} {
		block := api.Block{In: roomy(imm(1)), Code: roomy(instr(0))}
		full := api.Block{In: roomy(imm(1)), Code: roomy(instr(0), i)}
		f := api.Func{Regs: roomy(api.Reg{ID: 1}), Params: roomy(imm(1)), Blocks: roomy(block, block, full)}
		emptyTest(t, Same, f)
		emptyTest(t, SameUnit, api.Unit{Func: f})
	}
	emptyTest(t, Same, api.Func{})
	emptyTest(t, Same, api.Func{Blocks: []api.Block{{}}})
	emptyTest(t, SameAlloc, api.Alloc{})
	emptyTest(t, SameAlloc, api.Alloc{Segs: roomy(api.Seg{V: 1})})
	emptyTest(t, SameTarget, api.Target{})
	emptyTest(t, SameTarget, api.Target{Clobber: [api.Classes][]int{roomy(1), roomy(2)}})
	emptyTest(t, SameTarget, api.Target{Clobber: [api.Classes][]int{{1}, nil}})
	emptyTest(t, SameTarget, api.Target{Clobber: [api.Classes][]int{nil, {1}}})
	emptyTest(t, SameUnit, api.Unit{})
}

// TestSameClasses: the two classes' numbers are not taken for each other's, nor one list's elements for another one's.
func TestSameClasses(t *testing.T) {
	one := api.Target{Regs: [api.Classes]int{1, 2}, Clobber: [api.Classes][]int{{0}, {1}}}
	two := api.Target{Regs: [api.Classes]int{2, 1}, Clobber: [api.Classes][]int{{0}, {1}}}
	three := api.Target{Regs: [api.Classes]int{1, 2}, Clobber: [api.Classes][]int{{1}, {0}}}
	four := api.Target{Regs: [api.Classes]int{1, 2}, Clobber: [api.Classes][]int{{0, 1}, nil}}
	five := api.Target{Regs: [api.Classes]int{1, 2}, Clobber: [api.Classes][]int{nil, {0, 1}}}
	all := []api.Target{one, two, three, four, five}
	for i, a := range all {
		for j, b := range all {
			if SameTarget(a, b) != (i == j) {
				t.Errorf("targets %d and %d", i, j)
			}
		}
	}
	in, params := api.Func{Blocks: []api.Block{{In: []api.Operand{vreg(1)}}}}, api.Func{Params: []api.Operand{vreg(1)}, Blocks: []api.Block{{}}}
	apart := api.Func{Blocks: []api.Block{{Code: []api.Instr{{Op: 1}}}, {Code: []api.Instr{{Op: 2}}}}}
	joined := api.Func{Blocks: []api.Block{{Code: []api.Instr{{Op: 1}, {Op: 2}}}, {}}}
	for _, pair := range [][2]api.Func{{in, params}, {apart, joined}} {
		if Same(pair[0], pair[1]) || Same(pair[1], pair[0]) {
			t.Errorf("%v and %v are the same", pair[0], pair[1])
		}
	}
}

// ownTest asks of a call that copies whether what it answers is the same, and shares no memory with what it was given,
// nor one list of it with another one.
func ownTest[T any](t *testing.T, copied func(T) T, value T) {
	t.Helper()
	kept := twin(value)
	answer := copied(value)
	if !alike(answer, kept, false) {
		t.Fatalf("of %v came %v", kept, answer)
	}
	for _, e := range edits(value) {
		given := twin(value)
		mine := copied(given)
		e.do(reflect.ValueOf(&mine).Elem())
		if !alike(given, kept, true) {
			t.Errorf("%s of the answer changes what was handed in", e.path)
		}
		if want := edited(withoutRoom(value), e); !alike(mine, want, false) {
			t.Errorf("%s of the answer changes more of it: %v, not %v", e.path, mine, want)
		}
		mine = copied(given)
		e.do(reflect.ValueOf(&given).Elem())
		if !alike(mine, kept, false) {
			t.Errorf("%s of what was handed in changes the answer", e.path)
		}
	}
	// All at once, and behind the lists' lengths.
	given := twin(value)
	mine := copied(given)
	spoil(reflect.ValueOf(&mine).Elem())
	if !alike(given, kept, true) {
		t.Error("what is made of the answer is made of what was handed in")
	}
	mine = copied(given)
	spoil(reflect.ValueOf(&given).Elem())
	if !alike(mine, kept, false) {
		t.Error("what is made of what was handed in is made of the answer")
	}
	if !alike(value, kept, true) {
		t.Error("what was handed in is changed")
	}
}

// spoil writes to all memory that a value has, also behind its lists' lengths.
func spoil(v reflect.Value) {
	switch v.Kind() {
	case reflect.Struct:
		for k := range v.NumField() {
			spoil(v.Field(k))
		}
	case reflect.Array:
		for k := range v.Len() {
			spoil(v.Index(k))
		}
	case reflect.Slice:
		all := v.Slice(0, v.Cap())
		for k := range all.Len() {
			spoil(all.Index(k))
		}
	case reflect.Int:
		v.SetInt(^v.Int())
	case reflect.String:
		v.SetString(v.String() + "!")
	case reflect.Bool:
		v.SetBool(!v.Bool())
	}
}

// sharing is a function whose lists have one memory: what shares none is its copy alone.
func sharing() api.Func {
	operands := []api.Operand{vreg(1), vreg(2), vreg(3), vreg(4)}
	labels := []string{"a", "b", "c"}
	cases := []int{5, 6, 7}
	code := []api.Instr{
		{Op: api.OpCall, Args: operands, Labels: labels, Cases: cases},
		{Op: api.OpCall, Args: operands[:2], Labels: labels[1:], Cases: cases[:1]},
		{Op: api.OpCall, Args: operands[2:], Labels: labels[:2], Cases: cases[1:]},
	}
	return api.Func{
		Params: operands[:3],
		Blocks: []api.Block{{Label: "a", In: operands[1:], Code: code}, {Label: "b", In: operands, Code: code[1:]}},
	}
}

// TestCopy: 12.2, of CopyInstr and Copy.
func TestCopy(t *testing.T) {
	ownTest(t, CopyInstr, instr(0))
	ownTest(t, CopyInstr, api.Instr{})
	ownTest(t, CopyInstr, api.Instr{Op: api.OpBr, Args: roomy(imm(1)), Labels: roomy("x"), Cases: roomy(1)})
	ownTest(t, Copy, function())
	ownTest(t, Copy, api.Func{})
	ownTest(t, Copy, api.Func{Name: "f", Regs: roomy(api.Reg{ID: 1}), Params: roomy(imm(1)), Blocks: roomy(api.Block{Label: "x"})})
	ownTest(t, Copy, api.Func{Blocks: []api.Block{{}, {In: roomy(imm(1)), Code: roomy(instr(0))}}})
}

// TestCopyShared: lists that have one memory have each their own in the answer.
func TestCopyShared(t *testing.T) {
	f, kept := sharing(), twin(sharing())
	for _, e := range edits(f) {
		mine := Copy(f)
		e.do(reflect.ValueOf(&mine).Elem())
		if want := edited(withoutRoom(f), e); !alike(mine, want, false) {
			t.Errorf("%s changes more: %v, not %v", e.path, mine, want)
		}
		if !alike(f, kept, true) {
			t.Fatalf("%s changes what was handed in", e.path)
		}
	}
	i := f.Blocks[0].Code[0]
	i.Args = i.Args[:2]
	mine := CopyInstr(i)
	mine.Args = append(mine.Args, imm(1))
	mine.Labels = append(mine.Labels[:1], "x")
	if !alike(f, kept, true) {
		t.Error("what is appended to an answer is written to what was handed in")
	}
}

// operandsOfInstr are an instruction's operands, Dst first.
func operandsOfInstr(i api.Instr) []api.Operand {
	return append([]api.Operand{i.Dst}, i.Args...)
}

// operandsOf are a function's operands, in order.
func operandsOf(f api.Func) []api.Operand {
	l := slices.Clone(f.Params)
	for _, block := range f.Blocks {
		l = append(l, block.In...)
		for _, i := range block.Code {
			l = append(l, operandsOfInstr(i)...)
		}
	}
	return l
}

// renumbered is a function in which each operand is what turn makes of it, worked out by hand.
func renumbered(f api.Func, turn func(api.Operand) api.Operand) api.Func {
	f = twin(f)
	turnList := func(l []api.Operand) {
		for k, o := range l {
			l[k] = turn(o)
		}
	}
	turnList(f.Params)
	for _, block := range f.Blocks {
		turnList(block.In)
		for k := range block.Code {
			block.Code[k].Dst = turn(block.Code[k].Dst)
			turnList(block.Code[k].Args)
		}
	}
	return f
}

// sorted are operands in an order that is the same for each order that they come in.
func sorted(l []api.Operand) []api.Operand {
	l = slices.Clone(l)
	slices.SortFunc(l, func(a, b api.Operand) int {
		return slices.Compare([]int{a.Kind, a.Class, a.N, a.Tag}, []int{b.Kind, b.Class, b.N, b.Tag})
	})
	return l
}

// other is an operand, all of whose fields are other ones.
func other(o api.Operand) api.Operand {
	return api.Operand{Kind: o.Kind + 1, Class: o.Class + 2, N: ^o.N, Tag: o.Tag - 1}
}

// functions are functions of many forms.
func functions() []api.Func {
	none := api.Operand{}
	l := []api.Func{
		{},
		function(),
		sharing(),
		{Params: roomy(imm(9), vreg(1))},
		{Params: []api.Operand{vreg(1), none, vreg(1)}, Blocks: []api.Block{{}, {}}},
		{Blocks: []api.Block{{Code: []api.Instr{{Op: api.OpRet}}}}},
		{Blocks: []api.Block{{}, {Code: []api.Instr{{Op: api.OpRet, Args: []api.Operand{vreg(3)}}, {Op: api.OpCall, Dst: vreg(4)}}}, {In: []api.Operand{slot(1, 2)}}}},
		{Machine: true, Blocks: []api.Block{{In: []api.Operand{none, none}, Code: roomy(instr(0))}}},
		{Blocks: []api.Block{{Code: []api.Instr{{Op: api.OpAdd, Dst: vreg(7), Args: []api.Operand{vreg(7), vreg(7)}}}}}},
		{Name: "f", Regs: []api.Reg{{ID: 1}}, Blocks: []api.Block{{Label: "a", Code: []api.Instr{{Dst: api.Operand{N: 5, Tag: 6}}, {Args: []api.Operand{none}}}}}},
	}
	for _, e := range edits(function()) {
		l = append(l, edited(function(), e))
	}
	return l
}

// TestMap: 12.2, of MapInstr and Map.
func TestMap(t *testing.T) {
	for n, f := range functions() {
		kept := twin(f)
		var got []api.Operand
		turn := func(o api.Operand) api.Operand {
			got = append(got, o)
			return other(o)
		}
		answer := Map(f, turn)
		if !alike(answer, renumbered(f, other), false) {
			t.Errorf("function %d: %v", n, answer)
		}
		if !slices.Equal(sorted(got), sorted(operandsOf(f))) {
			t.Errorf("function %d: turned is %v, not %v", n, got, operandsOf(f))
		}
		if !alike(f, kept, true) {
			t.Errorf("function %d: what was handed in is changed", n)
		}
		for _, block := range f.Blocks {
			for _, i := range block.Code {
				mapInstrTest(t, i)
			}
		}
	}
}

// mapInstrTest asks MapInstr of an instruction.
func mapInstrTest(t *testing.T, i api.Instr) {
	t.Helper()
	kept := twin(i)
	var got []api.Operand
	answer := MapInstr(i, func(o api.Operand) api.Operand {
		got = append(got, o)
		return other(o)
	})
	want := renumbered(api.Func{Blocks: []api.Block{{Code: []api.Instr{i}}}}, other).Blocks[0].Code[0]
	if !alike(answer, want, false) {
		t.Errorf("of %v came %v", kept, answer)
	}
	if !slices.Equal(sorted(got), sorted(operandsOfInstr(kept))) {
		t.Errorf("of %v turned is %v", kept, got)
	}
	if !alike(i, kept, true) {
		t.Errorf("%v: what was handed in is changed", kept)
	}
}

// TestMapOwn: what Map and MapInstr answer shares no memory with what they were given, even if turn leaves all as it is.
func TestMapOwn(t *testing.T) {
	leave := func(o api.Operand) api.Operand { return o }
	ownTest(t, func(i api.Instr) api.Instr { return MapInstr(i, leave) }, instr(0))
	ownTest(t, func(i api.Instr) api.Instr { return MapInstr(i, leave) }, api.Instr{})
	ownTest(t, func(f api.Func) api.Func { return Map(f, leave) }, function())
	ownTest(t, func(f api.Func) api.Func { return Map(f, leave) }, api.Func{})
	// Nothing is promised of a turn that is nil, but no call panics.
	ownTest(t, func(i api.Instr) api.Instr { return MapInstr(i, nil) }, instr(0))
	ownTest(t, func(f api.Func) api.Func { return Map(f, nil) }, function())
}

// TestMapOnce: turn is called once for each operand, also for those that are as others, and each is what came of its call.
func TestMapOnce(t *testing.T) {
	f := sharing()
	count := 0
	number := func(api.Operand) api.Operand {
		count++
		return vreg(count)
	}
	answer := Map(f, number)
	all := operandsOf(answer)
	if count != len(operandsOf(f)) || len(all) != count {
		t.Fatalf("turned are %d operands, not %d", count, len(operandsOf(f)))
	}
	for k, o := range sorted(all) {
		if o != vreg(k+1) {
			t.Errorf("operand %d is %v", k, o)
		}
	}
	count = 0
	i := MapInstr(api.Instr{Op: api.OpAdd, Args: []api.Operand{vreg(7), vreg(7)}}, number)
	if got := sorted(operandsOfInstr(i)); !slices.Equal(got, []api.Operand{vreg(1), vreg(2), vreg(3)}) || count != 3 {
		t.Errorf("turned are %v by %d calls", got, count)
	}
}

// TestMapMeanwhile: what turn does to the function meanwhile changes nothing of the answer.
func TestMapMeanwhile(t *testing.T) {
	f := function()
	want := renumbered(f, other)
	answer := Map(f, func(o api.Operand) api.Operand {
		spoil(reflect.ValueOf(&f).Elem())
		return other(o)
	})
	if !alike(answer, want, false) {
		t.Errorf("came %v, not %v", answer, want)
	}
}

// TestOperands: 12.3, of Operands, with R4.
func TestOperands(t *testing.T) {
	for n, f := range functions() {
		kept := twin(f)
		want := operandsOf(f)
		all := Operands(f)
		if got := slices.Collect(all); !slices.Equal(got, want) {
			t.Errorf("function %d: %v, not %v", n, got, want)
		}
		for stop := range len(want) {
			if got := firstOnes(all, stop); !slices.Equal(got, want[:stop+1]) {
				t.Errorf("function %d, left at %d: %v", n, stop, got)
			}
		}
		if got := slices.Collect(all); !slices.Equal(got, want) {
			t.Errorf("function %d, gone through again: %v", n, got)
		}
		if !alike(f, kept, true) {
			t.Errorf("function %d is changed", n)
		}
	}
}

// firstOnes are the operands up to a place, at which what hands them on is left.
func firstOnes(all func(func(api.Operand) bool), stop int) []api.Operand {
	var got []api.Operand
	all(func(o api.Operand) bool {
		got = append(got, o)
		return len(got) <= stop
	})
	return got
}

// TestOperandsOrder: the operands of a function, by hand.
func TestOperandsOrder(t *testing.T) {
	f := api.Func{
		Params: []api.Operand{vreg(1), vreg(2)},
		Blocks: []api.Block{
			{In: []api.Operand{vreg(3), vreg(4)}, Code: []api.Instr{
				{Op: api.OpAdd, Dst: vreg(5), Args: []api.Operand{vreg(6), imm(7)}},
				{Op: api.OpBr, Labels: []string{"b"}},
			}},
			{},
			{In: []api.Operand{vreg(8)}},
			{Code: []api.Instr{{Op: api.OpRet, Args: []api.Operand{vreg(9)}}}},
		},
	}
	none := api.Operand{}
	want := []api.Operand{vreg(1), vreg(2), vreg(3), vreg(4), vreg(5), vreg(6), imm(7), none, vreg(8), none, vreg(9)}
	if got := slices.Collect(Operands(f)); !slices.Equal(got, want) {
		t.Errorf("%v, not %v", got, want)
	}
	if all := Operands(api.Func{}); all == nil || len(slices.Collect(all)) != 0 {
		t.Error("a function without operands has some")
	}
	pairs := 0
	all := Operands(f)
	for a := range all {
		for b := range all {
			if a == b {
				pairs++
			}
		}
	}
	if pairs != 13 {
		t.Errorf("gone through within itself: %d pairs", pairs)
	}
}

// TestOperandsKept: what is handed in is not kept (R3): what is done to it behind the call is not seen.
func TestOperandsKept(t *testing.T) {
	f := function()
	want := operandsOf(f)
	all := Operands(f)
	spoil(reflect.ValueOf(&f).Elem())
	if got := slices.Collect(all); !slices.Equal(got, want) {
		t.Errorf("%v, not %v", got, want)
	}
}

// TestCount: 12.3, of Count.
func TestCount(t *testing.T) {
	code := func(n int) api.Block { return api.Block{Code: make([]api.Instr, n, n+3)} }
	for _, c := range []struct {
		blocks []api.Block
		want   int
	}{
		{nil, 0},
		{[]api.Block{{}}, 0},
		{[]api.Block{{}, {In: []api.Operand{vreg(1)}}, {}}, 0},
		{[]api.Block{code(1)}, 1},
		{[]api.Block{code(3), {}, code(2)}, 5},
		{[]api.Block{{}, code(4096), code(1), {}}, 4097},
		{roomy(code(9), code(2), code(2)), 4},
	} {
		if got := Count(api.Func{Params: []api.Operand{vreg(1)}, Regs: []api.Reg{{ID: 1}}, Blocks: c.blocks}); got != c.want {
			t.Errorf("%d, not %d", got, c.want)
		}
	}
}

// TestClass: 12.3, of Class.
func TestClass(t *testing.T) {
	f := api.Func{Regs: roomy(api.Reg{ID: 40, Class: 1},
		api.Reg{ID: 5, Class: api.ClassX},
		api.Reg{ID: 3, Class: api.ClassG},
		api.Reg{ID: 5, Class: api.ClassG},
		api.Reg{ID: 3, Class: api.ClassX},
		api.Reg{ID: -1, Class: -7},
		api.Reg{ID: least, Class: greatest},
		api.Reg{ID: greatest, Class: least},
	)}
	for _, c := range []struct {
		v, want int
		ok      bool
	}{
		{5, 1, true}, {3, 0, true}, {-1, -7, true}, {least, greatest, true}, {greatest, least, true},
		{0, 0, false}, {1, 0, false}, {2, 0, false}, {4, 0, false}, {6, 0, false}, {40, 0, false}, {-2, 0, false},
		{least + 1, 0, false}, {greatest - 1, 0, false}, {5 + 1<<32, 0, false},
	} {
		if got, ok := Class(f, c.v); got != c.want || ok != c.ok {
			t.Errorf("%d: %d, %v", c.v, got, ok)
		}
	}
	for _, v := range []int{0, 1, -1} {
		if got, ok := Class(api.Func{Params: []api.Operand{vreg(v)}}, v); got != 0 || ok {
			t.Errorf("%d of no registers: %d, %v", v, got, ok)
		}
	}
	if got, ok := Class(api.Func{Regs: []api.Reg{{}}}, 0); got != 0 || !ok {
		t.Errorf("0: %d, %v", got, ok)
	}
}

// TestFind: 12.3, of Find.
func TestFind(t *testing.T) {
	f := api.Func{Name: "f", Blocks: roomy(api.Block{Label: "behind"},
		api.Block{Label: "a"}, api.Block{Label: "b"}, api.Block{Label: "a.b"}, api.Block{Label: "b"}, api.Block{Label: ""},
		api.Block{Label: "\xff\x00"}, api.Block{}, api.Block{Label: "a"},
	)}
	for _, c := range []struct {
		label string
		want  int
	}{
		{"a", 0}, {"b", 1}, {"a.b", 2}, {"", 4}, {"\xff\x00", 5},
		{"f", -1}, {"A", -1}, {"a.", -1}, {"aa", -1}, {"behind", -1}, {"\xff", -1}, {" ", -1},
	} {
		if got := Find(f, c.label); got != c.want {
			t.Errorf("%q: %d, not %d", c.label, got, c.want)
		}
	}
	for _, label := range []string{"", "a"} {
		if got := Find(api.Func{}, label); got != -1 {
			t.Errorf("%q of no blocks: %d", label, got)
		}
	}
	if got := Find(api.Func{Blocks: []api.Block{{Label: "a"}}}, ""); got != -1 {
		t.Errorf("the empty label: %d", got)
	}
}

// callsTest asks which names calls have, of a function and of what is written out.
func callsTest(t *testing.T, f api.Func, want ...string) {
	t.Helper()
	kept := twin(f)
	got := Calls(f)
	if !slices.Equal(got, want) {
		t.Errorf("%q, not %q", got, want)
	}
	for k := range got {
		got[k] = "spoilt"
	}
	_ = append(got, "spoilt")
	if !alike(f, kept, true) {
		t.Error("what was handed in is changed")
	}
	if again := Calls(f); !slices.Equal(again, want) {
		t.Errorf("asked again: %q, not %q", again, want)
	}
}

// TestCalls: 12.3, of Calls.
func TestCalls(t *testing.T) {
	call := func(name string) api.Instr { return api.Instr{Op: api.OpCall, Name: name} }
	code := func(l ...api.Instr) api.Block { return api.Block{Code: roomy(call("behind"), l...)} }
	callsTest(t, api.Func{Name: "f"})
	callsTest(t, api.Func{Name: "f", Blocks: []api.Block{{Label: "a"}, code(), code(api.Instr{Op: api.OpRet})}})
	callsTest(t, api.Func{Blocks: []api.Block{code(call("g"))}}, "g")
	callsTest(t, api.Func{Blocks: []api.Block{code(call("g"), call("g"))}}, "g")
	callsTest(t, api.Func{Blocks: []api.Block{code(call("g")), {}, code(call("f"), call("g"))}}, "f", "g")
	callsTest(t, api.Func{Blocks: []api.Block{code(call("b"), call("a"), call("B"), call("ab"), call("")), code(call("_"), call("a"), call("b1"))}},
		"", "B", "_", "a", "ab", "b", "b1")
	callsTest(t, api.Func{Blocks: []api.Block{code(call("\xff"), call("é"), call("z"), call("\x00"), call("\U0010ffff"), call("\uffff"))}},
		"\x00", "z", "é", "\uffff", "\U0010ffff", "\xff")
	var all []api.Instr
	for op := -2; op <= api.Ops+2; op++ {
		all = append(all, api.Instr{Op: op, Name: "of" + strconv.Itoa(op), Dst: vreg(1), Args: []api.Operand{imm(1)}})
	}
	all = append(all, api.Instr{Op: least, Name: "least"}, api.Instr{Op: greatest, Name: "greatest"})
	callsTest(t, api.Func{Blocks: []api.Block{code(all...)}}, "of19")
	// Every choice of four calls among some names, parted into two blocks at each place.
	names := []string{"", "a", "aa", "b", "B"}
	for number := range 5 * 5 * 5 * 5 * 5 {
		var first, second []api.Instr
		want := []string{}
		for k, rest := 0, number; k < 5; k, rest = k+1, rest/5 {
			name := names[rest%5]
			if k == 0 {
				// The lowest digit says how many of the calls are in the first block.
				continue
			}
			if k <= number%5 {
				first = append(first, call(name))
			} else {
				second = append(second, call(name))
			}
			if !slices.Contains(want, name) {
				want = append(want, name)
			}
		}
		slices.Sort(want)
		callsTest(t, api.Func{Blocks: []api.Block{code(first...), code(second...)}}, want...)
	}
}

// numbers are numbers of an operand's fields.
func numbers() []int {
	return []int{0, 1, 2, 3, 4, 5, 7, -1, -2, 1 << 31, api.MaxID, -1 << 31, 1<<32 + 1, least, least + 1, greatest - 1, greatest}
}

// everyOperand are operands of each kind that there is, and of others, with all numbers.
func everyOperand() []api.Operand {
	var l []api.Operand
	for _, kind := range []int{0, 1, 2, 3, 4, 5, 6, -1, -2, 1<<32 + 1, least, greatest} {
		for _, class := range []int{0, 1, 2, -1, least, greatest} {
			for _, n := range numbers() {
				for _, tag := range numbers() {
					l = append(l, api.Operand{Kind: kind, Class: class, N: n, Tag: tag})
				}
			}
		}
	}
	return l
}

// valueOf is what an operand's value is, by the chapter.
func valueOf(o api.Operand) (int, bool) {
	if o.Kind == 1 {
		return o.N, true
	}
	if o.Kind == 2 || o.Kind == 3 {
		return o.Tag, true
	}
	return 0, false
}

// locOf is where an operand is, by the chapter.
func locOf(o api.Operand) (api.Loc, bool) {
	if o.Kind == 2 {
		return api.Loc{Kind: 2, Class: o.Class, N: o.N}, true
	}
	if o.Kind == 3 {
		return api.Loc{Kind: 3, Class: 0, N: o.N}, true
	}
	return api.Loc{}, false
}

// TestValue: 12.4, of Value, Def and At.
func TestValue(t *testing.T) {
	for _, o := range everyOperand() {
		want, has := valueOf(o)
		if got, ok := Value(o); got != want || ok != has {
			t.Errorf("the value of %v: %d, %v", o, got, ok)
		}
		i := api.Instr{Op: api.OpAdd, Dst: o, Args: []api.Operand{vreg(77), preg(0, 78, 79)}}
		if got, ok := Def(i); got != want || ok != has {
			t.Errorf("what is given to %v: %d, %v", o, got, ok)
		}
		loc, stands := locOf(o)
		if got, ok := At(o); got != loc || ok != stands {
			t.Errorf("where %v is: %v, %v", o, got, ok)
		}
	}
}

// TestDef: what an instruction gives to hangs on its Dst alone.
func TestDef(t *testing.T) {
	for op := -1; op <= api.Ops+1; op++ {
		if v, ok := Def(api.Instr{Op: op, Dst: vreg(5)}); v != 5 || !ok {
			t.Errorf("of operation %d: %d, %v", op, v, ok)
		}
		if v, ok := Def(api.Instr{Op: op, Args: []api.Operand{vreg(5)}}); v != 0 || ok {
			t.Errorf("of operation %d without a place: %d, %v", op, v, ok)
		}
	}
}

// TestUses: 12.4, of Uses.
func TestUses(t *testing.T) {
	if l := Uses(api.Instr{Op: api.OpAdd, Dst: vreg(1), Args: []api.Operand{vreg(7), vreg(7)}}); !slices.Equal(l, []int{7}) {
		t.Errorf("the chapter's example: %v", l)
	}
	if l := Uses(api.Instr{Op: api.OpAdd, Dst: vreg(1)}); len(l) != 0 {
		t.Errorf("without arguments: %v", l)
	}
	for _, o := range everyOperand() {
		var want []int
		if v, ok := valueOf(o); ok {
			want = []int{v}
		}
		i := api.Instr{Op: api.OpRet, Dst: vreg(70), Args: roomy(vreg(71), o)}
		if got := Uses(i); !slices.Equal(got, want) {
			t.Errorf("%v: %v", o, got)
		}
	}
	some := []api.Operand{
		{}, {N: 1, Tag: 2}, vreg(0), vreg(1), vreg(2), preg(0, 1, 2), preg(1, 2, 1), slot(0, 1), slot(2, 0), imm(1), imm(2),
		{Kind: 5, N: 1, Tag: 1}, {Kind: -1, N: 2, Tag: 2}, vreg(least), slot(1, least), vreg(greatest), vreg(-1),
	}
	var args []api.Operand
	var every func()
	every = func() {
		usesTest(t, args)
		if len(args) == 4 {
			return
		}
		for _, o := range some {
			args = append(args, o)
			every()
			args = args[:len(args)-1]
		}
	}
	every()
}

// usesTest asks which values such arguments have, each looked for among those ahead of it.
func usesTest(t *testing.T, args []api.Operand) {
	t.Helper()
	var want []int
	for _, o := range args {
		if v, ok := valueOf(o); ok && !slices.Contains(want, v) {
			want = append(want, v)
		}
	}
	if got := Uses(api.Instr{Op: api.OpCall, Args: args}); !slices.Equal(got, want) {
		t.Errorf("%v: %v, not %v", args, got, want)
	}
}

// TestUsesMany: of very many arguments each is named once, in order, and what was handed in stays as it was.
func TestUsesMany(t *testing.T) {
	const many = 300_000
	i := api.Instr{Op: api.OpCall}
	for n := range many {
		i.Args = append(i.Args, vreg(many-n), slot(n, many-n), imm(n), preg(0, 1, n))
	}
	kept := slices.Clone(i.Args)
	got := Uses(i)
	if len(got) != many+1 || !slices.Equal(got[:3], []int{many, 0, many - 1}) {
		t.Errorf("%d values", len(got))
	}
	if !slices.Equal(i.Args, kept) {
		t.Error("what was handed in is changed")
	}
}

// TestPut: 12.4, of Put, and At of what it answers.
func TestPut(t *testing.T) {
	for _, n := range numbers() {
		for _, v := range numbers() {
			for _, l := range []api.Loc{{Kind: 2, Class: 0, N: n}, {Kind: 2, Class: 1, N: n}, {Kind: 3, N: n}} {
				o := Put(l, v)
				if o != (api.Operand{Kind: l.Kind, Class: l.Class, N: n, Tag: v}) {
					t.Errorf("%v of %d: %v", l, v, o)
				}
				if back, ok := At(o); back != l || !ok {
					t.Errorf("%v of %d is at %v, %v", l, v, back, ok)
				}
				if back, ok := Value(o); back != v || !ok {
					t.Errorf("%v of %d has %d, %v", l, v, back, ok)
				}
			}
		}
	}
	// The operand has the place's kind, class and number, whatever they are.
	for _, o := range everyOperand() {
		if got := Put(api.Loc{Kind: o.Kind, Class: o.Class, N: o.N}, o.Tag); got != o {
			t.Errorf("%v, not %v", got, o)
		}
	}
}
