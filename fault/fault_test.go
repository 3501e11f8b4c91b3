package fault

import (
	"errors"
	"fmt"
	"math"
	"slices"
	"strings"
	"testing"

	"dyehouse/api"
)

// named are the codes that the document names, but for OK.
func named() []api.Code {
	return []api.Code{
		api.ErrArg, api.ErrRange, api.ErrLong, api.ErrMany, api.ErrNil, api.ErrByte, api.ErrQuote, api.ErrNumber,
		api.ErrSyntax, api.ErrDepth, api.ErrBlocks, api.ErrTwice, api.ErrLabel, api.ErrEntry, api.ErrTerm, api.ErrArity,
		api.ErrKind, api.ErrClass, api.ErrVreg, api.ErrReach, api.ErrAssign, api.ErrCase, api.ErrName, api.ErrTarget,
		api.ErrSeg, api.ErrLoc, api.ErrCover, api.ErrPlace, api.ErrSlot, api.ErrSplit, api.ErrShape, api.ErrBack,
		api.ErrRegs, api.ErrSlots, api.ErrCheck,
	}
}

// nameless are codes that the program has no name for.
func nameless() []api.Code {
	return []api.Code{
		math.MinInt64, math.MinInt64 + 1, -1 << 32, -1 << 31, -256, -80, -2, -1, 6, 9, 13, 81, 99, 100, 256, 65536,
		1 << 31, 1 << 32, 1<<32 + 1, math.MaxInt64 - 1, math.MaxInt64,
	}
}

// codes are those of faults: all but OK.
func codes() []api.Code {
	return append(named(), nameless()...)
}

// places are numbers of all kinds.
func places() []int {
	return []int{
		math.MinInt64, math.MinInt64 + 1, -1 << 32, -1 << 31, -100, -10, -7, -1, 0, 1, 7, 9, 10, 99, 100, 65536,
		1 << 31, 1 << 32, math.MaxInt64 - 1, math.MaxInt64,
	}
}

// parts are texts of all kinds.
func parts() []string {
	return []string{
		"", "func", "target", "a", "A", "0", ":", " ", ": ", "a: ", ": a", "a: b", "a:b", ":: ", "7 at 7", "32 at 7",
		"func: 32 at 7", " at ", "\n", "\t", "a\nb", "\x00", "a\x00b", "\xff", "\xc3", "\u00e4", "\u3002", "%s", "%d%v%!",
		"\"q\"", "\\", strings.Repeat("x", 300), strings.Repeat(": ", 300),
	}
}

// inAll is an error within parts, of which the outmost comes first.
func inAll(path []string, err error) error {
	for _, part := range slices.Backward(path) {
		err = In(part, err)
	}
	return err
}

// model is the text of a fault within parts, put together as the promise says.
func model(path []string, code api.Code, at int) string {
	var text string
	for _, part := range path {
		text += fmt.Sprintf("%s: ", part)
	}
	return text + fmt.Sprintf("%d at %d", int64(code), at)
}

// other is a code that is none of a fault's, and not OK.
func other(code api.Code) api.Code {
	if code == api.ErrArg {
		return api.ErrRange
	}
	return api.ErrArg
}

// tryFault holds all that is asked of a fault against what it was made of.
func tryFault(t *testing.T, err error, path []string, code api.Code, at int) {
	t.Helper()
	if err == nil {
		t.Fatalf("code %d at %d within %q: nil", code, at, path)
	}
	if got := Of(err); got != code {
		t.Errorf("code %d at %d within %q: Of = %d", code, at, path, got)
	}
	if got := At(err); got != at {
		t.Errorf("code %d at %d within %q: At = %d", code, at, path, got)
	}
	if !Has(err, code) {
		t.Errorf("code %d at %d within %q: Has its own code = false", code, at, path)
	}
	for _, no := range []api.Code{api.OK, other(code), code + 1, code - 1, -code, api.Code(at)} {
		if no != code && Has(err, no) {
			t.Errorf("code %d at %d within %q: Has(%d) = true", code, at, path, no)
		}
	}
	if got := Path(err); !slices.Equal(got, path) {
		t.Errorf("code %d at %d within %q: Path = %q", code, at, path, got)
	}
	if got, want := Text(err), model(path, code, at); got != want {
		t.Errorf("code %d at %d within %q: Text = %q; want %q", code, at, path, got, want)
	}
}

// The chapter's example.
func TestExample(t *testing.T) {
	err := In("func", New(api.ErrLabel, 7))
	if got := Text(err); got != "func: 32 at 7" {
		t.Errorf("Text = %q", got)
	}
	tryFault(t, err, []string{"func"}, api.ErrLabel, 7)
}

// 5.1: New of OK is nil, at any place.
func TestNewOK(t *testing.T) {
	for _, at := range places() {
		if err := New(api.OK, at); err != nil {
			t.Errorf("New(OK, %d) = %v", at, err)
		}
	}
}

// 5.1, 5.2: a fault of each code, named or not, at each place, within no part.
func TestNew(t *testing.T) {
	for _, code := range codes() {
		for _, at := range places() {
			tryFault(t, New(code, at), nil, code, at)
		}
	}
}

// 5.1: all codes but OK that are near 0 are of faults.
func TestNewNear(t *testing.T) {
	for code := api.Code(-300); code <= 300; code++ {
		if code == api.OK {
			continue
		}
		tryFault(t, New(code, 0), nil, code, 0)
		tryFault(t, In("p", New(code, int(code))), []string{"p"}, code, int(code))
	}
}

// 5.1: In of nil is nil, whatever the part, and however many there are.
func TestInNil(t *testing.T) {
	for _, part := range parts() {
		if err := In(part, nil); err != nil {
			t.Errorf("In(%q, nil) = %v", part, err)
		}
		if err := In(part, In("func", New(api.OK, 7))); err != nil {
			t.Errorf("In(%q, In(func, New(OK, 7))) = %v", part, err)
		}
	}
	if err := inAll(parts(), nil); err != nil {
		t.Errorf("In of all parts of nil = %v", err)
	}
}

// 5.1, 5.2: a fault of each code, at each place, within one part and within several.
func TestIn(t *testing.T) {
	paths := [][]string{{"func"}, {"read", "func"}, {"read", "func", "block", "a"}}
	for _, code := range codes() {
		for _, at := range places() {
			for _, path := range paths {
				tryFault(t, inAll(path, New(code, at)), path, code, at)
			}
		}
	}
}

// 5.1, 5.2: each part, alone, and each two of them, alike ones among them, one within the other.
func TestParts(t *testing.T) {
	for _, outer := range parts() {
		tryFault(t, In(outer, New(api.ErrSyntax, 11)), []string{outer}, api.ErrSyntax, 11)
		for _, inner := range parts() {
			err := In(outer, In(inner, New(api.ErrCheck, -3)))
			tryFault(t, err, []string{outer, inner}, api.ErrCheck, -3)
		}
	}
}

// 5.1, 5.2: all orders of a few parts, up to four deep.
func TestOrders(t *testing.T) {
	few := []string{"", "a", "b", "a: "}
	paths := [][]string{nil}
	for from, deep := 0, 0; deep < 4; deep++ {
		upTo := len(paths)
		for _, path := range paths[from:upTo] {
			for _, part := range few {
				paths = append(paths, append(slices.Clone(path), part))
			}
		}
		from = upTo
	}
	if len(paths) != 1+4+16+64+256 {
		t.Fatal(len(paths))
	}
	for i, path := range paths {
		tryFault(t, inAll(path, New(api.ErrKind, i)), path, api.ErrKind, i)
	}
}

// 5.1, 5.2: each of the 256 bytes as a part, and in one.
func TestEachByte(t *testing.T) {
	for b := range 256 {
		c := string([]byte{byte(b)})
		path := []string{c, "a" + c + "b", c + c}
		tryFault(t, inAll(path, New(api.ErrByte, b)), path, api.ErrByte, b)
	}
}

// 5.1, 5.2: empty and alike parts count each, however many there are.
func TestAlike(t *testing.T) {
	for _, part := range []string{"", "a", ": "} {
		for many := range 40 {
			path := slices.Repeat([]string{part}, many)
			tryFault(t, inAll(path, New(api.ErrMany, many)), path, api.ErrMany, many)
		}
	}
}

// 5.1, 5.2, P0: very many parts.
func TestDeep(t *testing.T) {
	path := make([]string, 200000)
	for i := range path {
		path[i] = string(rune('a' + i%26))
	}
	err := inAll(path, New(api.ErrDepth, 5))
	if Of(err) != api.ErrDepth || At(err) != 5 || !Has(err, api.ErrDepth) || Has(err, api.OK) || Has(err, api.ErrArg) {
		t.Errorf("Of %d, At %d, Has %t, %t, %t", Of(err), At(err), Has(err, api.ErrDepth), Has(err, api.OK), Has(err, api.ErrArg))
	}
	if !slices.Equal(Path(err), path) {
		t.Error("Path is another one")
	}
	if Text(err) != strings.Join(path, ": ")+": 21 at 5" {
		t.Error("Text is another one")
	}
}

// 5.2: what is asked of nil.
func TestNil(t *testing.T) {
	for _, err := range []error{nil, New(api.OK, 7), In("func", nil), In("", New(api.OK, -1))} {
		if got := Of(err); got != api.OK {
			t.Errorf("Of(nil) = %d", got)
		}
		if got := At(err); got != 0 {
			t.Errorf("At(nil) = %d", got)
		}
		for _, code := range append(codes(), api.OK) {
			if Has(err, code) {
				t.Errorf("Has(nil, %d) = true", code)
			}
		}
		if got := Path(err); len(got) != 0 {
			t.Errorf("Path(nil) = %q", got)
		}
		if got := Text(err); got != "" {
			t.Errorf("Text(nil) = %q", got)
		}
	}
}

// 5.2: Has of each code, of faults of each code, at a place, within no part, one and several.
func TestHasEach(t *testing.T) {
	for _, code := range codes() {
		bare := New(code, 3)
		for _, err := range []error{bare, In("a", bare), In("b", In("", In("a", bare)))} {
			for _, asked := range append(codes(), api.OK) {
				if got := Has(err, asked); got != (asked == code) {
					t.Errorf("Has of code %d (%s), %d = %t", code, Text(err), asked, got)
				}
			}
		}
	}
}

// 5.2: Has asks for the code, not for the place, nor for the parts.
func TestHasPlaces(t *testing.T) {
	for _, at := range places() {
		for _, part := range parts() {
			if !Has(In(part, New(api.ErrSlot, at)), api.ErrSlot) {
				t.Errorf("Has of a fault at %d within %q = false", at, part)
			}
		}
	}
}

// 5.2: the outmost part, which was put round last, is first.
func TestPathOrder(t *testing.T) {
	err := New(api.ErrTerm, 1)
	err = In("inmost", err)
	err = In("middle", err)
	err = In("outmost", err)
	if got := Path(err); !slices.Equal(got, []string{"outmost", "middle", "inmost"}) {
		t.Errorf("Path = %q", got)
	}
	if got := Text(err); got != "outmost: middle: inmost: 34 at 1" {
		t.Errorf("Text = %q", got)
	}
}

// 5.2, R3: what is done to a list that Path gave changes nothing that is asked later, nor another list.
func TestPathIsNew(t *testing.T) {
	path := []string{"a", "b", "c", "d", "e"}
	for deep := range len(path) + 1 {
		err := inAll(path[:deep], New(api.ErrSeg, 9))
		first, second := Path(err), Path(err)
		for i := range first {
			first[i] = "other"
		}
		clear(first[:cap(first)])
		_ = append(first[:0], "x", "y", "z")
		_ = append(first, "behind")
		if !slices.Equal(second, path[:deep]) {
			t.Errorf("another list became %q", second)
		}
		tryFault(t, err, path[:deep], api.ErrSeg, 9)
		tryFault(t, In("o", err), append([]string{"o"}, path[:deep]...), api.ErrSeg, 9)
	}
}

// 5.2: texts, written out.
func TestText(t *testing.T) {
	cases := []struct {
		err  error
		want string
	}{
		{New(api.ErrArg, 0), "1 at 0"},
		{New(api.ErrNil, 9), "5 at 9"},
		{New(api.ErrByte, 10), "10 at 10"},
		{New(api.ErrCheck, 65536), "80 at 65536"},
		{New(api.ErrCheck, -1), "80 at -1"},
		{New(api.ErrCheck, -65536), "80 at -65536"},
		{New(1234567890, 9876543210), "1234567890 at 9876543210"},
		{New(-1, -1), "-1 at -1"},
		{New(math.MinInt64, math.MaxInt64), "-9223372036854775808 at 9223372036854775807"},
		{New(math.MaxInt64, math.MinInt64), "9223372036854775807 at -9223372036854775808"},
		{In("", New(api.ErrArg, 0)), ": 1 at 0"},
		{In("", In("", New(api.ErrArg, 0))), ": : 1 at 0"},
		{In("func", New(api.ErrSyntax, 8)), "func: 20 at 8"},
		{In("read", In("func", New(api.ErrSyntax, 8))), "read: func: 20 at 8"},
		{In("fit", New(api.ErrCover, 2)), "fit: 52 at 2"},
		{In("a", In("a", In("a", New(api.ErrRegs, -12)))), "a: a: a: 70 at -12"},
		{In("a: b", New(api.ErrSlots, 1)), "a: b: 71 at 1"},
		{In(" a ", In(":", New(api.ErrSlots, 1))), " a : :: 71 at 1"},
		{In("\xff\x00", New(api.ErrLoc, 3)), "\xff\x00: 51 at 3"},
	}
	for _, c := range cases {
		if got := Text(c.err); got != c.want {
			t.Errorf("Text = %q; want %q", got, c.want)
		}
		if got := c.err.Error(); got != c.want {
			t.Errorf("Error = %q; want %q", got, c.want)
		}
	}
}

// 5.1, R3: a fault that is put within different parts stays as it was, and each of what comes does.
func TestApart(t *testing.T) {
	for _, path := range [][]string{nil, {"x"}, {"x", "y"}, {"", "", ""}, {"p", "q", "r", "s"}} {
		bare := inAll(path, New(api.ErrBack, 6))
		left := In("left", bare)
		right := In("right", bare)
		more := In("more", left)
		again := In("left", bare)
		for range 2 {
			tryFault(t, more, append([]string{"more", "left"}, path...), api.ErrBack, 6)
			tryFault(t, left, append([]string{"left"}, path...), api.ErrBack, 6)
			tryFault(t, right, append([]string{"right"}, path...), api.ErrBack, 6)
			tryFault(t, again, append([]string{"left"}, path...), api.ErrBack, 6)
			tryFault(t, bare, path, api.ErrBack, 6)
		}
	}
}

// 5.1: faults of one code at other places, and of other codes at one place, leave each other as they were.
func TestMany(t *testing.T) {
	var made []error
	for _, code := range codes() {
		for _, at := range places() {
			made = append(made, In("p", New(code, at)))
		}
	}
	for i, code := range codes() {
		for j, at := range places() {
			tryFault(t, made[i*len(places())+j], []string{"p"}, code, at)
		}
	}
}

// 5.1, LANGUAGE 5: what is made of the same is the same, wherever it lies.
func TestSame(t *testing.T) {
	made := func() error { return In("a", In("b", New(api.ErrName, 4))) }
	if one, two := made(), made(); one != two {
		t.Errorf("%v and %v are not the same", one, two)
	}
	if one, two := New(api.ErrName, 4), New(api.ErrName, 5); one == two {
		t.Errorf("%v and %v are the same", one, two)
	}
}

// list is an error of somebody else's that can't be compared.
type list []string

func (l list) Error() string {
	return strings.Join(l, ": ")
}

// 5.1: others' errors are no faults, whatever they tell, within no part and within some.
func TestOthers(t *testing.T) {
	for _, err := range []error{
		errors.New("func: 32 at 7"), errors.New(""), list{"func", "32 at 7"}, list(nil), fmt.Errorf("a: %w", list{"b"}),
		errors.Join(list{"a"}, list{"b"}),
	} {
		for _, err := range []error{err, In("func", err), In("", In("func", err))} {
			if err == nil {
				t.Fatal("nil of an error")
			}
			if Of(err) != api.OK || At(err) != 0 {
				t.Errorf("%q: Of = %d, At = %d", err, Of(err), At(err))
			}
			for _, code := range append(codes(), api.OK) {
				if Has(err, code) {
					t.Errorf("%q: Has(%d) = true", err, code)
				}
			}
		}
	}
	if got := Path(In("a", In("b", errors.New("c")))); !slices.Equal(got, []string{"a", "b"}) {
		t.Errorf("Path = %q", got)
	}
}

// 5.2, Ways: a fault is found within others' errors by errors.As, and its code by errors.Is.
func TestWithinOthers(t *testing.T) {
	err := fmt.Errorf("somebody: %w", In("func", New(api.ErrLabel, 7)))
	if Of(err) != api.ErrLabel || At(err) != 7 || !Has(err, api.ErrLabel) || Has(err, api.ErrTerm) || Has(err, api.OK) {
		t.Errorf("Of %d, At %d", Of(err), At(err))
	}
	if !errors.Is(err, New(api.ErrLabel, 8)) || errors.Is(err, New(api.ErrTerm, 7)) {
		t.Error("errors.Is asks for another thing than the code")
	}
}
