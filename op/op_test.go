package op

import (
	"math"
	"slices"
	"strings"
	"testing"

	"dyehouse/api"
)

const (
	least    = math.MinInt64
	greatest = math.MaxInt64
)

// row is what the chapter says of an operation, written out: to and from have a letter for each thing that a place may
// have, labels how many there are with no case, with one, with 16 and with 4096.
type row struct {
	op            int
	name          string
	to            string
	from          []string
	must, may     bool
	least, most   int
	labels        [4]int
	machine, last bool
}

// cases are the numbers of cases that a row's labels are told for.
var cases = [4]int{0, 1, 16, 4096}

// rows is the chapter's table.
func rows() []row {
	of := [4]int{0, 0, 0, 0}
	return []row{
		{1, "add", "g", []string{"g", "gi"}, true, true, 2, 2, of, false, false},
		{2, "sub", "g", []string{"g", "gi"}, true, true, 2, 2, of, false, false},
		{3, "mul", "g", []string{"g", "gi"}, true, true, 2, 2, of, false, false},
		{4, "and", "g", []string{"g", "gi"}, true, true, 2, 2, of, false, false},
		{5, "or", "g", []string{"g", "gi"}, true, true, 2, 2, of, false, false},
		{6, "xor", "g", []string{"g", "gi"}, true, true, 2, 2, of, false, false},
		{7, "shl", "g", []string{"g", "gi"}, true, true, 2, 2, of, false, false},
		{8, "shr", "g", []string{"g", "gi"}, true, true, 2, 2, of, false, false},
		{9, "sar", "g", []string{"g", "gi"}, true, true, 2, 2, of, false, false},
		{10, "div", "g", []string{"g", "gi"}, true, true, 2, 2, of, false, false},
		{11, "rem", "g", []string{"g", "gi"}, true, true, 2, 2, of, false, false},
		{12, "eq", "g", []string{"g", "gi"}, true, true, 2, 2, of, false, false},
		{13, "ne", "g", []string{"g", "gi"}, true, true, 2, 2, of, false, false},
		{14, "lt", "g", []string{"g", "gi"}, true, true, 2, 2, of, false, false},
		{15, "le", "g", []string{"g", "gi"}, true, true, 2, 2, of, false, false},
		{16, "copy", "gx", []string{"gxi"}, true, true, 1, 1, of, false, false},
		{17, "load", "g", []string{"x"}, true, true, 1, 1, of, false, false},
		{18, "store", "", []string{"g", "x"}, false, false, 2, 2, of, false, false},
		{19, "call", "gn", []string{"gis", "gis", "gis", "gis", "gis", "gis", "gis", "gis"}, false, true, 0, 8, of, false, false},
		{20, "br", "", nil, false, false, 0, 0, [4]int{1, 1, 1, 1}, false, true},
		{21, "brif", "", []string{"g"}, false, false, 1, 1, [4]int{2, 2, 2, 2}, false, true},
		{22, "switch", "", []string{"g"}, false, false, 1, 1, [4]int{1, 2, 17, 4097}, false, true},
		{23, "ret", "", []string{"gi"}, false, false, 1, 1, of, false, true},
		{24, "move", "gx", []string{"gx"}, true, true, 1, 1, of, true, false},
		{25, "spill", "s", []string{"gx"}, true, true, 1, 1, of, true, false},
		{26, "reload", "gx", []string{"s"}, true, true, 1, 1, of, true, false},
		{27, "swap", "", []string{"gxs", "gxs"}, false, false, 2, 2, of, true, false},
	}
}

// has is the letters of what stands in the row at a place; empty: there is no such place, or nothing stands there.
func (r row) has(i int) string {
	switch {
	case i == -1:
		return r.to
	case i >= 0 && i < len(r.from):
		return r.from[i]
	}
	return ""
}

// classes are those of the row at a place.
func (r row) classes(i int) []int {
	var l []int
	if strings.Contains(r.has(i), "g") {
		l = append(l, 0)
	}
	if strings.Contains(r.has(i), "x") {
		l = append(l, 1)
	}
	return l
}

// takes tells by the row what Takes must answer.
func (r row) takes(i, kind int, machine bool) bool {
	has := r.has(i)
	switch kind {
	case 0:
		return i == -1 && (has == "" || has == "gn")
	case 1:
		return !machine && !r.machine && strings.ContainsAny(has, "gx")
	case 2:
		return machine && strings.ContainsAny(has, "gx")
	case 3:
		return machine && strings.Contains(has, "s")
	case 4:
		return strings.Contains(has, "i")
	}
	return false
}

// none are numbers that are no operation; some are one, if they are cut to 8, 16 or 32 bits, or lose their sign.
func none() []int {
	l := []int{0, 28, 29, 32, 63, 64, 127, 128, 129, 255, 256, 257, 275, 1<<16 + 1, 1<<16 + 19, 1<<31 - 1, 1 << 31, 1<<32 - 1,
		1 << 32, 1<<32 + 1, 1<<32 + 19, 1<<32 + 27, greatest - 1, greatest, least, least + 1, least + 19, least + 28,
		-1 << 32, -1<<32 + 1, -1 << 31, -1<<16 + 1, -256, -255, -128, -64}
	for op := 1; op <= 28; op++ {
		l = append(l, -op)
	}
	return l
}

// places are the ones that are asked of each operation; some are one that there is, if they are cut.
func places() []int {
	return []int{-1, 0, 1, 2, 3, 4, 5, 6, 7, 8, 9, -2, -3, -8, 15, 16, 63, 64, 127, 128, 255, 256, 257, 1<<16 - 1, 1 << 16, 1<<31 - 1,
		1 << 31, 1<<32 - 1, 1 << 32, 1<<32 + 1, -1 << 31, -1 << 32, -1<<32 - 1, -256, -257, greatest, greatest - 1, least, least + 1}
}

// farClasses are no classes; some are one, if they are cut, or if what is shifted by them goes round.
func farClasses() []int {
	return []int{-1, 2, 3, 4, 5, 7, 8, 9, -2, 31, 32, 33, 63, 64, 65, 255, 256, 257, 1 << 32, 1<<32 + 1, -1 << 32, -63, -64, greatest, least, least + 1}
}

// farKinds are no kinds of operands; some are one, if they are cut.
func farKinds() []int {
	return []int{-1, 5, 6, 8, -2, -4, 255, 256, 257, 258, 259, 260, 1 << 32, 1<<32 + 1, 1<<32 + 2, 1<<32 + 3, 1<<32 + 4, greatest, least, least + 1}
}

// tryFind holds what is found of a text against the table.
func tryFind(t *testing.T, name string) {
	t.Helper()
	want, is := 0, false
	for _, r := range rows() {
		if r.name == name {
			want, is = r.op, true
		}
	}
	if op, ok := Find(name); op != want || ok != is {
		t.Errorf("Find(%q) = %d, %t; want %d, %t", name, op, ok, want, is)
	}
}

// The chapter's example.
func TestExample(t *testing.T) {
	op, ok := Find("store")
	if op != 18 || !ok {
		t.Errorf("store: %d, %t", op, ok)
	}
	if got := Classes(op, 1); !slices.Equal(got, []int{api.ClassX}) {
		t.Errorf("its place 1: %v", got)
	}
	if !Fits(op, 1, api.ClassX) || Fits(op, 1, api.ClassG) {
		t.Error("what fits its place 1")
	}
}

// 11.1, and the names that api gives: each operation has the number, and the name, of its place in the order.
func TestOrder(t *testing.T) {
	order := []int{api.OpAdd, api.OpSub, api.OpMul, api.OpAnd, api.OpOr, api.OpXor, api.OpShl, api.OpShr, api.OpSar, api.OpDiv, api.OpRem,
		api.OpEq, api.OpNe, api.OpLt, api.OpLe, api.OpCopy, api.OpLoad, api.OpStore, api.OpCall, api.OpBr, api.OpBrif, api.OpSwitch,
		api.OpRet, api.OpMove, api.OpSpill, api.OpReload, api.OpSwap}
	names := strings.Fields("add sub mul and or xor shl shr sar div rem eq ne lt le copy load store call br brif switch ret move spill reload swap")
	if len(order) != api.Ops || len(names) != api.Ops || len(rows()) != api.Ops {
		t.Fatalf("%d operations, %d names, %d rows", len(order), len(names), len(rows()))
	}
	for at, op := range order {
		if r := rows()[at]; r.op != at+1 || r.name != names[at] {
			t.Errorf("row %d is of %d, %q", at, r.op, r.name)
		}
		if op != at+1 || Name(op) != names[at] {
			t.Errorf("operation %d is %d, %q; want %q", at+1, op, Name(op), names[at])
		}
	}
}

// 11.1: Is, Name, Find, Machine and Last of each operation.
func TestEachOperation(t *testing.T) {
	for _, r := range rows() {
		if !Is(r.op) {
			t.Errorf("%s is none", r.name)
		}
		if got := Name(r.op); got != r.name {
			t.Errorf("Name(%d) = %q; want %q", r.op, got, r.name)
		}
		if op, ok := Find(r.name); op != r.op || !ok {
			t.Errorf("Find(%q) = %d, %t; want %d", r.name, op, ok, r.op)
		}
		if op, ok := Find(Name(r.op)); op != r.op || !ok {
			t.Errorf("Find(Name(%d)) = %d, %t", r.op, op, ok)
		}
		if got := Machine(r.op); got != r.machine {
			t.Errorf("Machine(%s) = %t", r.name, got)
		}
		if got := Last(r.op); got != r.last {
			t.Errorf("Last(%s) = %t", r.name, got)
		}
	}
}

// 11.1: just four operations are of machine code alone, and just four end a block, written out.
func TestMachineAndLastWrittenOut(t *testing.T) {
	var machine, last []string
	for op := -3; op <= 40; op++ {
		if Machine(op) {
			machine = append(machine, Name(op))
		}
		if Last(op) {
			last = append(last, Name(op))
		}
	}
	if got := strings.Join(machine, " "); got != "move spill reload swap" {
		t.Errorf("of machine code alone: %s", got)
	}
	if got := strings.Join(last, " "); got != "br brif switch ret" {
		t.Errorf("at the end of a block: %s", got)
	}
}

// 11.1: of numbers that are no operation there is no name, and Is, Machine and Last are false.
func TestNoOperation(t *testing.T) {
	for _, op := range none() {
		if Is(op) {
			t.Errorf("%d is one", op)
		}
		if got := Name(op); got != "" {
			t.Errorf("Name(%d) = %q", op, got)
		}
		if Machine(op) || Last(op) {
			t.Errorf("of %d: Machine %t, Last %t", op, Machine(op), Last(op))
		}
	}
	count := 0
	for op := -300; op <= 70000; op++ {
		if Is(op) {
			count++
		}
		if (Name(op) != "") != Is(op) || !Is(op) && (Machine(op) || Last(op)) {
			t.Fatalf("%d: %t, %q", op, Is(op), Name(op))
		}
	}
	if count != 27 {
		t.Errorf("there are %d", count)
	}
}

// 11.1: no two operations have one name.
func TestNamesOnce(t *testing.T) {
	seen := map[string]int{}
	for op := 1; op <= 27; op++ {
		if other := seen[Name(op)]; other != 0 {
			t.Errorf("%d and %d are both %q", other, op, Name(op))
		}
		seen[Name(op)] = op
	}
}

// 11.1: texts that are no name.
func TestFindNone(t *testing.T) {
	texts := []string{"", " ", "  ", "\x00", "n", "none", "op", "OpAdd", "0", "1", "18", "27", "add sub", "add,sub", "addsub", "add\n", "\nadd",
		"add\x00", "\x00add", "store\t", "br if", "bri", "swi", "Switch", "ADD", "aDd", "adD", "ADd", "STORE", "stores", "calls", "nop", "jmp",
		"mov", "not", "neg", "gt", "ge", "\u00e4dd", "\uff41dd", "add\u0301", strings.Repeat("a", 100), strings.Repeat("add", 50)}
	for _, text := range texts {
		if op, ok := Find(text); op != 0 || ok {
			t.Errorf("Find(%q) = %d, %t", text, op, ok)
		}
	}
	for b := range 256 {
		text := string([]byte{byte(b)})
		if op, ok := Find(text); op != 0 || ok {
			t.Errorf("Find(%q) = %d, %t", text, op, ok)
		}
	}
}

// 11.1: what is near a name: with a byte more at any place, a byte less, another byte, in other letters, with blanks, two in
// a row. Some of these are names: xor without its x.
func TestFindNear(t *testing.T) {
	for _, r := range rows() {
		name := r.name
		for _, text := range []string{" " + name, name + " ", " " + name + " ", "\t" + name, name + "\n", strings.ToUpper(name), strings.ToUpper(name[:1]) + name[1:], name + name, name + " " + name} {
			if op, ok := Find(text); op != 0 || ok {
				t.Errorf("Find(%q) = %d, %t", text, op, ok)
			}
		}
		for at := range len(name) + 1 {
			for b := range 256 {
				tryFind(t, name[:at]+string([]byte{byte(b)})+name[at:])
				if at < len(name) {
					tryFind(t, name[:at]+string([]byte{byte(b)})+name[at+1:])
				}
			}
			if at < len(name) {
				tryFind(t, name[:at])
				tryFind(t, name[at:])
				tryFind(t, name[:at]+name[at+1:])
				tryFind(t, name[:at]+strings.ToUpper(name[at:at+1])+name[at+1:])
			}
		}
		for _, o := range rows() {
			tryFind(t, name+o.name)
		}
	}
	if op, ok := Find("xor"[1:]); op != api.OpOr || !ok {
		t.Errorf("or: %d, %t", op, ok)
	}
}

// 11.1: of all texts of up to four small letters just the names are found.
func TestFindShort(t *testing.T) {
	known := map[string]int{}
	short := 0
	for _, r := range rows() {
		known[r.name] = r.op
		if len(r.name) <= 4 {
			short++
		}
	}
	found := 0
	level := []string{""}
	for range 4 {
		var next []string
		for _, ahead := range level {
			for b := byte('a'); b <= 'z'; b++ {
				text := ahead + string(rune(b))
				op, ok := Find(text)
				if op != known[text] || ok != (known[text] != 0) {
					t.Fatalf("Find(%q) = %d, %t", text, op, ok)
				}
				if ok {
					found++
				}
				next = append(next, text)
			}
		}
		level = next
	}
	if found != short {
		t.Errorf("%d found; want %d", found, short)
	}
}

// 11.2: Gives of each operation, both results.
func TestGives(t *testing.T) {
	for _, r := range rows() {
		if must, may := Gives(r.op); must != r.must || may != r.may {
			t.Errorf("Gives(%s) = %t, %t; want %t, %t", r.name, must, may, r.must, r.may)
		}
	}
	for _, op := range none() {
		if must, may := Gives(op); must || may {
			t.Errorf("Gives(%d) = %t, %t", op, must, may)
		}
	}
	if must, may := Gives(api.OpCall); must || !may {
		t.Errorf("a call must %t, may %t", must, may)
	}
}

// 11.2: Args of each operation, at least and at most.
func TestArgs(t *testing.T) {
	for _, r := range rows() {
		if least, most := Args(r.op); least != r.least || most != r.most {
			t.Errorf("Args(%s) = %d, %d; want %d, %d", r.name, least, most, r.least, r.most)
		}
	}
	for _, op := range none() {
		if least, most := Args(op); least != 0 || most != 0 {
			t.Errorf("Args(%d) = %d, %d", op, least, most)
		}
	}
	if least, most := Args(api.OpCall); api.MaxArgs != 8 || least != 0 || most != api.MaxArgs {
		t.Errorf("a call takes from %d to %d", least, most)
	}
}

// 11.2: Labels of each operation, with no case, one, 16, 4096, and all between.
func TestLabels(t *testing.T) {
	for _, r := range rows() {
		for at, count := range cases {
			if got := Labels(r.op, count); got != r.labels[at] {
				t.Errorf("Labels(%s, %d) = %d; want %d", r.name, count, got, r.labels[at])
			}
		}
		for count := range api.MaxCode + 1 {
			want := r.labels[0]
			if r.name == "switch" {
				want = 1 + count
			}
			if got := Labels(r.op, count); got != want {
				t.Fatalf("Labels(%s, %d) = %d; want %d", r.name, count, got, want)
			}
		}
	}
	for _, op := range none() {
		for _, count := range cases {
			if got := Labels(op, count); got != 0 {
				t.Errorf("Labels(%d, %d) = %d", op, count, got)
			}
		}
	}
}

// rising tells whether a list rises, each number being there once.
func rising(l []int) bool {
	for at := 1; at < len(l); at++ {
		if l[at-1] >= l[at] {
			return false
		}
	}
	return true
}

// 11.2: Classes and Fits of each operation, place by place, and that both say the same.
func TestClassesAndFits(t *testing.T) {
	for _, r := range rows() {
		for _, i := range places() {
			want := r.classes(i)
			got := Classes(r.op, i)
			if !slices.Equal(got, want) || !rising(got) {
				t.Errorf("Classes(%s, %d) = %v; want %v", r.name, i, got, want)
			}
			for _, class := range append([]int{api.ClassG, api.ClassX}, farClasses()...) {
				fits := Fits(r.op, i, class)
				if fits != slices.Contains(want, class) {
					t.Errorf("Fits(%s, %d, %d) = %t; want %v", r.name, i, class, fits, want)
				}
				if fits != slices.Contains(got, class) {
					t.Errorf("Fits(%s, %d, %d) = %t; Classes: %v", r.name, i, class, fits, got)
				}
			}
		}
	}
}

// 11.2: some places' classes, written out.
func TestClassesWrittenOut(t *testing.T) {
	g, x, both := []int{0}, []int{1}, []int{0, 1}
	for _, c := range []struct {
		op, i int
		want  []int
	}{
		{api.OpAdd, -1, g}, {api.OpAdd, 0, g}, {api.OpAdd, 1, g}, {api.OpAdd, 2, nil},
		{api.OpLe, -1, g}, {api.OpLe, 0, g}, {api.OpLe, 1, g}, {api.OpLe, 2, nil},
		{api.OpCopy, -1, both}, {api.OpCopy, 0, both}, {api.OpCopy, 1, nil},
		{api.OpLoad, -1, g}, {api.OpLoad, 0, x}, {api.OpLoad, 1, nil},
		{api.OpStore, -1, nil}, {api.OpStore, 0, g}, {api.OpStore, 1, x}, {api.OpStore, 2, nil},
		{api.OpCall, -1, g}, {api.OpCall, 0, g}, {api.OpCall, 7, g}, {api.OpCall, 8, nil}, {api.OpCall, -2, nil},
		{api.OpBr, -1, nil}, {api.OpBr, 0, nil},
		{api.OpBrif, -1, nil}, {api.OpBrif, 0, g}, {api.OpBrif, 1, nil},
		{api.OpSwitch, -1, nil}, {api.OpSwitch, 0, g}, {api.OpSwitch, 1, nil},
		{api.OpRet, -1, nil}, {api.OpRet, 0, g}, {api.OpRet, 1, nil},
		{api.OpMove, -1, both}, {api.OpMove, 0, both}, {api.OpMove, 1, nil},
		{api.OpSpill, -1, nil}, {api.OpSpill, 0, both}, {api.OpSpill, 1, nil},
		{api.OpReload, -1, both}, {api.OpReload, 0, nil}, {api.OpReload, 1, nil},
		{api.OpSwap, -1, nil}, {api.OpSwap, 0, both}, {api.OpSwap, 1, both}, {api.OpSwap, 2, nil},
	} {
		if got := Classes(c.op, c.i); !slices.Equal(got, c.want) {
			t.Errorf("Classes(%s, %d) = %v; want %v", Name(c.op), c.i, got, c.want)
		}
	}
}

// 11.2, R3: what is done to a list that was answered changes no later answer, nor one that was there.
func TestClassesStay(t *testing.T) {
	for _, r := range rows() {
		for i := -2; i <= 9; i++ {
			kept, spoilt := Classes(r.op, i), Classes(r.op, i)
			for at := range spoilt {
				spoilt[at] = 77
			}
			spoilt = append(spoilt, 78)
			whole := spoilt[:cap(spoilt)]
			for at := range whole {
				whole[at] = -9
			}
			if want := r.classes(i); !slices.Equal(kept, want) || !slices.Equal(Classes(r.op, i), want) {
				t.Errorf("Classes(%s, %d) = %v, later %v; want %v", r.name, i, kept, Classes(r.op, i), want)
			}
			for class := range 3 {
				if Fits(r.op, i, class) != slices.Contains(r.classes(i), class) {
					t.Errorf("Fits(%s, %d, %d) was changed", r.name, i, class)
				}
			}
		}
	}
}

// 11.2: Takes of each operation, place by place, each kind of operand, in machine code and not.
func TestTakes(t *testing.T) {
	for _, r := range rows() {
		for _, i := range places() {
			for _, kind := range append([]int{0, 1, 2, 3, 4}, farKinds()...) {
				for _, machine := range []bool{false, true} {
					if got := Takes(r.op, i, kind, machine); got != r.takes(i, kind, machine) {
						t.Errorf("Takes(%s, %d, %d, %t) = %t", r.name, i, kind, machine, got)
					}
				}
			}
		}
	}
}

// 11.2: what some places may have, written out: a letter for each kind, first not in machine code, then in it.
func TestTakesWrittenOut(t *testing.T) {
	kinds := []int{api.None, api.Vreg, api.Preg, api.Slot, api.Imm}
	for _, c := range []struct {
		op, i int
		want  string
	}{
		{api.OpAdd, -1, "v p"}, {api.OpAdd, 0, "v p"}, {api.OpAdd, 1, "vi pi"}, {api.OpAdd, 2, " "}, {api.OpAdd, -2, " "},
		{api.OpRem, -1, "v p"}, {api.OpRem, 0, "v p"}, {api.OpRem, 1, "vi pi"}, {api.OpRem, 2, " "}, {api.OpRem, -2, " "},
		{api.OpCopy, -1, "v p"}, {api.OpCopy, 0, "vi pi"}, {api.OpCopy, 1, " "},
		{api.OpLoad, -1, "v p"}, {api.OpLoad, 0, "v p"}, {api.OpLoad, 1, " "},
		{api.OpStore, -1, "n n"}, {api.OpStore, 0, "v p"}, {api.OpStore, 1, "v p"}, {api.OpStore, 2, " "},
		{api.OpCall, -1, "nv np"}, {api.OpCall, 0, "vi psi"}, {api.OpCall, 1, "vi psi"}, {api.OpCall, 7, "vi psi"}, {api.OpCall, 8, " "},
		{api.OpCall, -2, " "},
		{api.OpBr, -1, "n n"}, {api.OpBr, 0, " "},
		{api.OpBrif, -1, "n n"}, {api.OpBrif, 0, "v p"}, {api.OpBrif, 1, " "},
		{api.OpSwitch, -1, "n n"}, {api.OpSwitch, 0, "v p"}, {api.OpSwitch, 1, " "},
		{api.OpRet, -1, "n n"}, {api.OpRet, 0, "vi pi"}, {api.OpRet, 1, " "},
		{api.OpMove, -1, " p"}, {api.OpMove, 0, " p"}, {api.OpMove, 1, " "},
		{api.OpSpill, -1, " s"}, {api.OpSpill, 0, " p"}, {api.OpSpill, 1, " "},
		{api.OpReload, -1, " p"}, {api.OpReload, 0, " s"}, {api.OpReload, 1, " "},
		{api.OpSwap, -1, "n n"}, {api.OpSwap, 0, " ps"}, {api.OpSwap, 1, " ps"}, {api.OpSwap, 2, " "},
		{0, -1, "n n"}, {0, 0, " "}, {0, -2, " "}, {28, -1, "n n"}, {28, 0, " "}, {-1, -1, "n n"}, {-1, 0, " "},
		{least, -1, "n n"}, {least, 0, " "}, {greatest, -1, "n n"}, {greatest, 0, " "},
	} {
		got := ""
		for _, machine := range []bool{false, true} {
			for at, kind := range kinds {
				if Takes(c.op, c.i, kind, machine) {
					got += "nvpsi"[at : at+1]
				}
			}
			if !machine {
				got += " "
			}
		}
		if got != c.want {
			t.Errorf("the place %d of %d (%s) may have %q; want %q", c.i, c.op, Name(c.op), got, c.want)
		}
	}
}

// 11.2: numbers that are no operation have no classes, and take nothing, at any place; nothing, which is None, may stand
// where something would be given, for there the table has nothing.
func TestNoOperationTakesNothing(t *testing.T) {
	kinds := append([]int{0, 1, 2, 3, 4}, farKinds()...)
	for _, op := range none() {
		for _, i := range places() {
			if got := Classes(op, i); len(got) != 0 {
				t.Errorf("Classes(%d, %d) = %v", op, i, got)
			}
			for class := -1; class <= 2; class++ {
				if Fits(op, i, class) {
					t.Errorf("Fits(%d, %d, %d)", op, i, class)
				}
			}
			for _, kind := range kinds {
				want := i == -1 && kind == 0
				if Takes(op, i, kind, false) != want || Takes(op, i, kind, true) != want {
					t.Errorf("Takes(%d, %d, %d) = %t, in machine code %t; want %t", op, i, kind, Takes(op, i, kind, false), Takes(op, i, kind, true), want)
				}
			}
		}
	}
}

// 11.2: the calls agree with each other: something may stand at -1 just if Gives says so, and need not just if it need not;
// from each place of Args, and from no other one, something is taken; of each register that is taken there is a class.
func TestCallsAgree(t *testing.T) {
	for op := -2; op <= 30; op++ {
		must, may := Gives(op)
		_, most := Args(op)
		for i := -3; i <= 12; i++ {
			something := false
			for kind := api.Vreg; kind <= api.Imm; kind++ {
				something = something || Takes(op, i, kind, false) || Takes(op, i, kind, true)
			}
			is := i >= 0 && i < most || i == -1 && may
			if something != is {
				t.Errorf("the place %d of %q may have something: %t; want %t", i, Name(op), something, is)
			}
			if nothing := Takes(op, i, api.None, true); nothing != (i == -1 && !must) || nothing != Takes(op, i, api.None, false) {
				t.Errorf("the place %d of %q may have nothing: %t", i, Name(op), nothing)
			}
			classes := len(Classes(op, i)) > 0
			if Takes(op, i, api.Preg, true) != classes || Takes(op, i, api.Vreg, false) != (classes && !Machine(op)) {
				t.Errorf("the place %d of %q: classes %v", i, Name(op), Classes(op, i))
			}
		}
	}
}
