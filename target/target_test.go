package target

import (
	"math"
	"slices"
	"testing"

	"dyehouse/api"
	"dyehouse/deci"
)

const (
	least    = math.MinInt64
	greatest = math.MaxInt64
)

// numbers are those that places, classes and bounds are asked with: the edges, and some between.
func numbers() []int {
	return []int{least, least + 1, -16, -2, -1, 0, 1, 2, 3, 4, 5, 7, 8, 9, 10, 11, 15, 16, 17, 99, 4095, 4096, 4097, greatest - 1, greatest}
}

// kinds are all kinds of operands, and what is none, on both sides.
func kinds() []int {
	return []int{least, -1, api.None, api.Vreg, api.Preg, api.Slot, api.Imm, 5, greatest}
}

// noClasses are numbers of which there is no class.
func noClasses() []int {
	return []int{least, -2, -1, 2, 3, 16, 256, greatest}
}

// reg is a register.
func reg(class, n int) api.Loc {
	return api.Loc{Kind: api.Preg, Class: class, N: n}
}

// slot is a slot.
func slot(n int) api.Loc {
	return api.Loc{Kind: api.Slot, N: n}
}

// machine is a target, of each class how many registers there are, and which ones a call spoils.
func machine(g int, spoiltG []int, x int, spoiltX []int, slots int) api.Target {
	return api.Target{Regs: [2]int{g, x}, Clobber: [2][]int{spoiltG, spoiltX}, Slots: slots}
}

// cut is a list that has more behind it in its memory.
func cut(list []int, more ...int) []int {
	whole := append(slices.Clone(list), more...)
	return whole[:len(list)]
}

// twin is a target in memory of its own, all of which shows, as far as its lists have room.
func twin(t api.Target) api.Target {
	for class, list := range t.Clobber {
		t.Clobber[class] = slices.Clone(list[:cap(list)])
	}
	return t
}

// untouched tells whether a target is as its twin is.
func untouched(t, was api.Target) bool {
	for class, list := range t.Clobber {
		if !slices.Equal(list[:cap(list)], was.Clobber[class]) {
			return false
		}
	}
	return t.Regs == was.Regs && t.Slots == was.Slots
}

// TestLetter: the letters of both classes, and none of any other one.
func TestLetter(t *testing.T) {
	if s := Letter(api.ClassG); s != "g" {
		t.Errorf("of class 0: %q", s)
	}
	if s := Letter(api.ClassX); s != "x" {
		t.Errorf("of class 1: %q", s)
	}
	for _, class := range noClasses() {
		if s := Letter(class); s != "" {
			t.Errorf("of class %d: %q", class, s)
		}
	}
}

// TestClass: the classes of both letters.
func TestClass(t *testing.T) {
	if class, ok := Class("g"); class != api.ClassG || !ok {
		t.Error("of g:", class, ok)
	}
	if class, ok := Class("x"); class != api.ClassX || !ok {
		t.Error("of x:", class, ok)
	}
}

// TestClassOfNone: no other text is a letter: all of one byte, all of two, and some that look like one.
func TestClassOfNone(t *testing.T) {
	texts := []string{"", "gx", "xg", "ggg", "G", "X", "a", "h", "y", "0", "1", "$g", "g0", " g", "g ", "g\x00", "\x00g", "ɡ", "х", "x\u0301", "\ufeffg"}
	for a := range 256 {
		one := string([]byte{byte(a)})
		if one != "g" && one != "x" {
			texts = append(texts, one)
		}
		for b := range 256 {
			texts = append(texts, string([]byte{byte(a), byte(b)}))
		}
	}
	for _, s := range texts {
		if class, ok := Class(s); class != 0 || ok {
			t.Errorf("of %q: %d %v", s, class, ok)
		}
	}
}

// TestNameOfRegisters: of both classes, by hand.
func TestNameOfRegisters(t *testing.T) {
	for _, c := range []struct {
		class, n int
		want     string
	}{
		{0, 0, "$g0"},
		{0, 7, "$g7"},
		{0, 15, "$g15"},
		{0, 16, "$g16"},
		{0, -1, "$g-1"},
		{0, least, "$g-9223372036854775808"},
		{0, greatest, "$g9223372036854775807"},
		{1, 0, "$x0"},
		{1, 3, "$x3"},
		{1, 10, "$x10"},
		{1, -10, "$x-10"},
		{1, least, "$x-9223372036854775808"},
		{1, greatest, "$x9223372036854775807"},
	} {
		if s := Name(reg(c.class, c.n)); s != c.want {
			t.Errorf("of register %d of class %d: %q, not %q", c.n, c.class, s, c.want)
		}
	}
}

// TestNameOfSlots: by hand, and whatever their class.
func TestNameOfSlots(t *testing.T) {
	for _, c := range []struct {
		n    int
		want string
	}{
		{0, "#0"},
		{7, "#7"},
		{15, "#15"},
		{4096, "#4096"},
		{-1, "#-1"},
		{-10, "#-10"},
		{least, "#-9223372036854775808"},
		{greatest, "#9223372036854775807"},
	} {
		for _, class := range append(noClasses(), 0, 1) {
			if s := Name(api.Loc{Kind: api.Slot, Class: class, N: c.n}); s != c.want {
				t.Errorf("of slot %d of class %d: %q, not %q", c.n, class, s, c.want)
			}
		}
	}
}

// TestName: of places of all kinds, all classes, and all numbers.
func TestName(t *testing.T) {
	for _, kind := range kinds() {
		for _, class := range append(noClasses(), 0, 1) {
			for _, n := range numbers() {
				want := ""
				switch {
				case kind == 2 && class == 0:
					want = "$g" + deci.Put(n)
				case kind == 2 && class == 1:
					want = "$x" + deci.Put(n)
				case kind == 3:
					want = "#" + deci.Put(n)
				}
				if s := Name(api.Loc{Kind: kind, Class: class, N: n}); s != want {
					t.Errorf("of kind %d, class %d, number %d: %q, not %q", kind, class, n, s, want)
				}
			}
		}
	}
}

// TestCheck: nothing is wrong, or one thing is, or several ones are, of which the first is told.
func TestCheck(t *testing.T) {
	all := []int{0, 1, 2, 3, 4, 5, 6, 7, 8, 9, 10, 11, 12, 13, 14, 15}
	for _, c := range []struct {
		why  string
		t    api.Target
		want api.Code
	}{
		{"nothing at all", api.Target{}, api.OK},
		{"lists without elements", machine(8, []int{}, 4, []int{}, 10), api.OK},
		{"lists that are nil", machine(8, nil, 4, nil, 10), api.OK},
		{"some are spoilt", machine(8, []int{0, 3, 7}, 4, []int{2}, 10), api.OK},
		{"all are spoilt", machine(16, all, 16, all, 4096), api.OK},
		{"the last one is spoilt", machine(1, []int{0}, 2, []int{1}, 0), api.OK},
		{"no g", machine(0, nil, 4, []int{0, 3}, 1), api.OK},
		{"no x", machine(8, []int{0, 7}, 0, nil, 1), api.OK},

		{"g below 0", machine(-1, nil, 4, nil, 10), api.ErrRange},
		{"g 16", machine(16, nil, 4, nil, 10), api.OK},
		{"g 17", machine(17, nil, 4, nil, 10), api.ErrRange},
		{"g least", machine(least, nil, 4, nil, 10), api.ErrRange},
		{"g greatest", machine(greatest, nil, 4, nil, 10), api.ErrRange},
		{"x below 0", machine(8, nil, -1, nil, 10), api.ErrRange},
		{"x 16", machine(8, nil, 16, nil, 10), api.OK},
		{"x 17", machine(8, nil, 17, nil, 10), api.ErrRange},
		{"x least", machine(8, nil, least, nil, 10), api.ErrRange},
		{"x greatest", machine(8, nil, greatest, nil, 10), api.ErrRange},

		{"slots below 0", machine(8, nil, 4, nil, -1), api.ErrRange},
		{"slots 0", machine(8, nil, 4, nil, 0), api.OK},
		{"slots 4096", machine(8, nil, 4, nil, 4096), api.OK},
		{"slots 4097", machine(8, nil, 4, nil, 4097), api.ErrRange},
		{"slots least", machine(8, nil, 4, nil, least), api.ErrRange},
		{"slots greatest", machine(8, nil, 4, nil, greatest), api.ErrRange},

		{"none may be spoilt where there is none", machine(0, []int{0}, 4, nil, 10), api.ErrTarget},
		{"of x, too", machine(8, nil, 0, []int{0}, 10), api.ErrTarget},
		{"a g that x alone has not", machine(8, []int{5}, 4, nil, 10), api.OK},
		{"an x that g alone has", machine(8, nil, 4, []int{5}, 10), api.ErrTarget},
		{"an x that g has not", machine(4, nil, 8, []int{5}, 10), api.OK},
		{"a g that x alone has", machine(4, []int{5}, 8, nil, 10), api.ErrTarget},
		{"x begins anew", machine(8, []int{3, 7}, 4, []int{0, 3}, 10), api.OK},

		{"Regs of g ahead of its Clobber", machine(17, []int{-1}, 4, nil, 10), api.ErrRange},
		{"Regs of x ahead of its Clobber", machine(8, nil, -1, []int{-1}, 10), api.ErrRange},
		{"Clobber of g ahead of Regs of x", machine(8, []int{8}, 17, nil, 10), api.ErrTarget},
		{"Clobber of g ahead of slots", machine(8, []int{8}, 4, nil, -1), api.ErrTarget},
		{"Clobber of x ahead of slots", machine(8, nil, 4, []int{1, 1}, 4097), api.ErrTarget},
		{"Regs of g ahead of Clobber of x", machine(-1, nil, 4, []int{9}, 10), api.ErrRange},
		{"Regs of x ahead of slots", machine(8, nil, 17, nil, 4097), api.ErrRange},
		{"all of it", machine(17, []int{-1}, 17, []int{-1}, -1), api.ErrRange},
		{"all but Regs of g", machine(16, []int{-1}, 17, []int{-1}, -1), api.ErrTarget},
	} {
		if code := Check(c.t); code != c.want {
			t.Errorf("%s: %d, not %d", c.why, code, c.want)
		}
	}
}

// TestCheckOfEachSpoilt: one of Clobber, the first, a middle and the last one, is changed to what may stand there, and to what may not.
func TestCheckOfEachSpoilt(t *testing.T) {
	for _, c := range []struct {
		at, n int
		want  api.Code
	}{
		{0, 0, api.OK}, {0, 1, api.OK}, {0, 3, api.OK},
		{0, -1, api.ErrTarget}, {0, least, api.ErrTarget},
		{0, 4, api.ErrTarget}, {0, 5, api.ErrTarget}, // the one behind is no greater
		{0, 10, api.ErrTarget}, {0, greatest, api.ErrTarget},

		{1, 3, api.OK}, {1, 4, api.OK}, {1, 6, api.OK},
		{1, 2, api.ErrTarget}, {1, 1, api.ErrTarget}, {1, 0, api.ErrTarget}, {1, -1, api.ErrTarget}, {1, least, api.ErrTarget},
		{1, 7, api.ErrTarget}, {1, 8, api.ErrTarget}, {1, 10, api.ErrTarget}, {1, greatest, api.ErrTarget},

		{2, 5, api.OK}, {2, 7, api.OK}, {2, 9, api.OK},
		{2, 4, api.ErrTarget}, {2, 3, api.ErrTarget}, {2, 0, api.ErrTarget}, {2, -1, api.ErrTarget}, {2, least, api.ErrTarget},
		{2, 10, api.ErrTarget}, {2, 11, api.ErrTarget}, {2, greatest, api.ErrTarget},
	} {
		for class := range api.Classes {
			list := []int{2, 4, 7}
			list[c.at] = c.n
			target := machine(10, nil, 10, nil, 1)
			target.Clobber[class] = list
			if code := Check(target); code != c.want {
				t.Errorf("%v of class %d: %d, not %d", list, class, code, c.want)
			}
		}
	}
}

// lists are all lists of numbers from -1 to 4 of so many elements at most.
func lists(most int) [][]int {
	all := [][]int{nil}
	for from := 0; most > 0; most-- {
		end := len(all)
		for _, list := range all[from:end] {
			for n := -1; n <= 4; n++ {
				all = append(all, append(slices.Clone(list), n))
			}
		}
		from = end
	}
	return all
}

// sound tells by the words of the chapter, with a set of registers in a number's bits, whether Clobber may be so.
func sound(list []int, regs int) bool {
	set := 0
	for _, n := range list {
		if n < 0 || n >= regs || set>>n != 0 {
			return false
		}
		set |= 1 << n
	}
	return true
}

// TestCheckOfShortLists: all short lists of both classes.
func TestCheckOfShortLists(t *testing.T) {
	for _, list := range lists(4) {
		for regs := range 5 {
			for class := range api.Classes {
				target := machine(16, []int{15}, 16, []int{0, 15}, 1)
				target.Regs[class], target.Clobber[class] = regs, list
				want := api.OK
				if !sound(list, regs) {
					want = api.ErrTarget
				}
				if code := Check(target); code != want {
					t.Errorf("%v of %d of class %d: %d, not %d", list, regs, class, code, want)
				}
			}
		}
	}
}

// TestHas: registers and slots, by hand.
func TestHas(t *testing.T) {
	target := machine(8, []int{0, 1}, 4, []int{0}, 10)
	for _, c := range []struct {
		l    api.Loc
		want bool
	}{
		{reg(0, -1), false}, {reg(0, 0), true}, {reg(0, 4), true}, {reg(0, 7), true}, {reg(0, 8), false},
		{reg(1, -1), false}, {reg(1, 0), true}, {reg(1, 3), true}, {reg(1, 4), false}, {reg(1, 7), false},
		{reg(2, 0), false}, {reg(-1, 0), false}, {reg(greatest, 0), false}, {reg(least, 0), false},
		{slot(-1), false}, {slot(0), true}, {slot(9), true}, {slot(10), false},
		{api.Loc{Kind: api.Slot, Class: 1, N: 0}, false},
		{api.Loc{Kind: api.Slot, Class: -1, N: 9}, false},
		{api.Loc{Kind: api.None}, false},
		{api.Loc{Kind: api.Vreg}, false},
		{api.Loc{Kind: api.Imm}, false},
		{api.Loc{Kind: -1}, false},
		{api.Loc{Kind: 5}, false},
	} {
		if ok := Has(target, c.l); ok != c.want {
			t.Errorf("%v: %v", c.l, ok)
		}
	}
}

// TestHasOfAll: places of all kinds, classes and numbers, of targets right and wrong.
func TestHasOfAll(t *testing.T) {
	for _, target := range []api.Target{
		{},
		machine(8, []int{0, 1, 2, 3}, 4, []int{0, 1}, 1024),
		machine(16, nil, 0, nil, 4096),
		machine(0, nil, 16, nil, 0),
		machine(-1, nil, -1, nil, -1),
		machine(17, []int{99}, 4096, nil, 4097),
		machine(greatest, nil, least, nil, greatest),
		machine(least, nil, greatest, nil, least),
	} {
		for _, kind := range kinds() {
			for _, class := range append(noClasses(), 0, 1) {
				for _, n := range numbers() {
					end := 0
					switch {
					case kind == 2 && class == 0:
						end = target.Regs[0]
					case kind == 2 && class == 1:
						end = target.Regs[1]
					case kind == 3 && class == 0:
						end = target.Slots
					}
					want := n >= 0 && n < end
					if ok := Has(target, api.Loc{Kind: kind, Class: class, N: n}); ok != want {
						t.Errorf("%v of kind %d, class %d, number %d: %v", target, kind, class, n, ok)
					}
				}
			}
		}
	}
}

// TestSpoils: each class has its own list, and a slot is in none.
func TestSpoils(t *testing.T) {
	target := machine(8, []int{0, 3, 7}, 4, []int{1}, 10)
	for _, kind := range kinds() {
		for _, class := range append(noClasses(), 0, 1) {
			for _, n := range numbers() {
				want := kind == 2 && (class == 0 && (n == 0 || n == 3 || n == 7) || class == 1 && n == 1)
				if ok := Spoils(target, api.Loc{Kind: kind, Class: class, N: n}); ok != want {
					t.Errorf("kind %d, class %d, number %d: %v", kind, class, n, ok)
				}
			}
		}
	}
}

// TestSpoilsByTheListAlone: what the list has is spoilt, though there is no such register, and whatever the order.
func TestSpoilsByTheListAlone(t *testing.T) {
	target := machine(0, []int{9, -1, least, 2, 2}, -1, []int{greatest, 0}, 0)
	for _, l := range []api.Loc{reg(0, 9), reg(0, -1), reg(0, least), reg(0, 2), reg(1, greatest), reg(1, 0)} {
		if !Spoils(target, l) {
			t.Errorf("%v is not spoilt", l)
		}
	}
	for _, l := range []api.Loc{reg(0, 0), reg(0, greatest), reg(1, 9), reg(1, 2), reg(1, -1)} {
		if Spoils(target, l) {
			t.Errorf("%v is spoilt", l)
		}
	}
}

// TestSpoilt: class by class, in the lists' order, as they stand there.
func TestSpoilt(t *testing.T) {
	for _, c := range []struct {
		g, x []int
		want []api.Loc
	}{
		{nil, nil, nil},
		{[]int{}, []int{}, nil},
		{[]int{2}, nil, []api.Loc{reg(0, 2)}},
		{nil, []int{2}, []api.Loc{reg(1, 2)}},
		{[]int{0, 3, 7}, nil, []api.Loc{reg(0, 0), reg(0, 3), reg(0, 7)}},
		{nil, []int{0, 3}, []api.Loc{reg(1, 0), reg(1, 3)}},
		{[]int{1, 7}, []int{0, 1}, []api.Loc{reg(0, 1), reg(0, 7), reg(1, 0), reg(1, 1)}},
		{[]int{7, 1, 1}, []int{-1, greatest, 0}, []api.Loc{reg(0, 7), reg(0, 1), reg(0, 1), reg(1, -1), reg(1, greatest), reg(1, 0)}},
	} {
		if got := Spoilt(machine(8, c.g, 4, c.x, 10)); !slices.Equal(got, c.want) {
			t.Errorf("%v %v: %v, not %v", c.g, c.x, got, c.want)
		}
	}
}

// TestKept: by hand, of both classes alike.
func TestKept(t *testing.T) {
	for _, c := range []struct {
		regs  int
		list  []int
		below int
		want  []int
	}{
		{8, []int{0, 1, 2, 3}, 0, nil},
		{8, []int{0, 1, 2, 3}, -1, nil},
		{8, []int{0, 1, 2, 3}, least, nil},
		{8, []int{0, 1, 2, 3}, 4, nil},
		{8, []int{0, 1, 2, 3}, 5, []int{4}},
		{8, []int{0, 1, 2, 3}, 7, []int{4, 5, 6}},
		{8, []int{0, 1, 2, 3}, 8, []int{4, 5, 6, 7}},
		{8, []int{0, 1, 2, 3}, 9, []int{4, 5, 6, 7}},
		{8, []int{0, 1, 2, 3}, greatest, []int{4, 5, 6, 7}},
		{4, []int{0, 1, 2, 3}, 4, nil},
		{4, []int{0, 1, 2, 3}, greatest, nil},
		{4, nil, 1, []int{0}},
		{4, nil, 4, []int{0, 1, 2, 3}},
		{4, []int{}, 5, []int{0, 1, 2, 3}},
		{4, []int{0}, 4, []int{1, 2, 3}},
		{4, []int{3}, 4, []int{0, 1, 2}},
		{4, []int{3}, 3, []int{0, 1, 2}},
		{4, []int{0, 3}, 4, []int{1, 2}},
		{4, []int{1, 2}, 4, []int{0, 3}},
		{4, []int{2, 1, 2, -1, 9}, 4, []int{0, 3}},
		{0, nil, 4, nil},
		{-1, nil, 4, nil},
		{least, nil, greatest, nil},
		{greatest, []int{1, 3}, 5, []int{0, 2, 4}},
		{20, []int{17}, 20, []int{0, 1, 2, 3, 4, 5, 6, 7, 8, 9, 10, 11, 12, 13, 14, 15, 16, 18, 19}},
	} {
		for class := range api.Classes {
			target := machine(6, []int{0, 2, 4}, 6, []int{0, 2, 4}, 10)
			target.Regs[class], target.Clobber[class] = c.regs, c.list
			if got := Kept(target, class, c.below); !slices.Equal(got, c.want) {
				t.Errorf("%v of %d of class %d below %d: %v, not %v", c.list, c.regs, class, c.below, got, c.want)
			}
		}
	}
}

// TestKeptOfNoClass: what is no class has none.
func TestKeptOfNoClass(t *testing.T) {
	for _, class := range noClasses() {
		if got := Kept(machine(8, nil, 4, nil, 10), class, 8); len(got) != 0 {
			t.Errorf("class %d: %v", class, got)
		}
	}
}

// TestKeptOfShortLists: of all short lists a register is kept that is below both bounds, and not in the list.
func TestKeptOfShortLists(t *testing.T) {
	for _, list := range lists(3) {
		for regs := -1; regs <= 5; regs++ {
			for below := -1; below <= 6; below++ {
				var want []int
				for n := 0; n < regs && n < below; n++ {
					if !slices.Contains(list, n) {
						want = append(want, n)
					}
				}
				if got := Kept(machine(regs, list, 4, []int{2}, 0), api.ClassG, below); !slices.Equal(got, want) {
					t.Errorf("%v of %d below %d: %v, not %v", list, regs, below, got, want)
				}
			}
		}
	}
}

// TestKeptOfVeryMany: very many registers, all but one of them spoilt, are told soon.
func TestKeptOfVeryMany(t *testing.T) {
	const many = 1 << 19
	var list []int
	for n := many - 1; n >= 0; n-- {
		if n != 77 {
			list = append(list, n)
		}
	}
	target := machine(1, nil, many, list, 0)
	if got := Kept(target, api.ClassX, greatest); !slices.Equal(got, []int{77}) {
		t.Errorf("%d are kept", len(got))
	}
	if n := len(Spoilt(target)); n != many-1 {
		t.Errorf("%d are spoilt", n)
	}
}

// TestKeptOfTooMany: nothing is promised of more than any list may have, but the call ends.
func TestKeptOfTooMany(t *testing.T) {
	target := machine(greatest, []int{0, 1}, greatest, nil, 0)
	for class := range api.Classes {
		if got := Kept(target, class, greatest); len(got) != 0 {
			t.Errorf("%d are kept", len(got))
		}
	}
}

// TestUsual: each field, and that nothing is wrong with it.
func TestUsual(t *testing.T) {
	usual := Usual()
	if usual.Regs != [2]int{8, 4} {
		t.Error(usual.Regs)
	}
	if !slices.Equal(usual.Clobber[0], []int{0, 1, 2, 3}) {
		t.Error(usual.Clobber[0])
	}
	if !slices.Equal(usual.Clobber[1], []int{0, 1}) {
		t.Error(usual.Clobber[1])
	}
	if usual.Slots != 1024 {
		t.Error(usual.Slots)
	}
	if code := Check(usual); code != api.OK {
		t.Error(code)
	}
}

// TestAnswersAreNew: what is changed in an answer is seen neither in a later one, nor in what was handed in.
func TestAnswersAreNew(t *testing.T) {
	usual := Usual()
	for _, list := range usual.Clobber {
		list = list[:cap(list)]
		for i := range list {
			list[i] = 99
		}
	}
	if again := Usual(); !slices.Equal(again.Clobber[0], []int{0, 1, 2, 3}) || !slices.Equal(again.Clobber[1], []int{0, 1}) {
		t.Error("usual:", again)
	}

	target := machine(8, cut([]int{0, 3}, 5, 6), 4, cut([]int{1}, 2, 3), 10)
	was := twin(target)
	spoilt := Spoilt(target)
	for i := range spoilt {
		spoilt[i] = api.Loc{}
	}
	if again := Spoilt(target); !slices.Equal(again, []api.Loc{reg(0, 0), reg(0, 3), reg(1, 1)}) {
		t.Error("spoilt:", again)
	}
	kept := Kept(target, api.ClassX, 4)
	for i := range kept {
		kept[i] = 99
	}
	if again := Kept(target, api.ClassX, 4); !slices.Equal(again, []int{0, 2, 3}) {
		t.Error("kept:", again)
	}
	if !untouched(target, was) {
		t.Error("what was handed in was changed:", target)
	}
}

// TestNothingIsKept: what is changed later in what was handed in is not seen in what was answered.
func TestNothingIsKept(t *testing.T) {
	target := machine(8, []int{0, 3}, 4, []int{1}, 10)
	spoilt, kept := Spoilt(target), Kept(target, api.ClassG, 5)
	target.Clobber[0][0], target.Clobber[0][1], target.Clobber[1][0] = 1, 2, 3
	if !slices.Equal(spoilt, []api.Loc{reg(0, 0), reg(0, 3), reg(1, 1)}) {
		t.Error("spoilt:", spoilt)
	}
	if !slices.Equal(kept, []int{1, 2, 4}) {
		t.Error("kept:", kept)
	}
}

// TestBehindTheLists: what lies behind a list's length is neither read nor written.
func TestBehindTheLists(t *testing.T) {
	target := machine(8, cut([]int{0, 3}, 2, -1, 9), 4, cut(nil, 0, 1, 7), 10)
	was := twin(target)
	if code := Check(target); code != api.OK {
		t.Error("check:", code)
	}
	for _, l := range []api.Loc{reg(0, 2), reg(0, 9), reg(1, 0), reg(1, 1)} {
		if Spoils(target, l) {
			t.Errorf("%v is spoilt", l)
		}
	}
	if got := Spoilt(target); !slices.Equal(got, []api.Loc{reg(0, 0), reg(0, 3)}) {
		t.Error("spoilt:", got)
	}
	if got := Kept(target, api.ClassX, 3); !slices.Equal(got, []int{0, 1, 2}) {
		t.Error("kept:", got)
	}
	Has(target, reg(0, 2))
	if !untouched(target, was) {
		t.Error("what was handed in was changed:", target)
	}
}

// TestExample: the chapter's example.
func TestExample(t *testing.T) {
	if s := Name(api.Loc{Kind: api.Preg, Class: api.ClassX, N: 3}); s != "$x3" {
		t.Error(s)
	}
}
