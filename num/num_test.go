package num

import (
	"math"
	"math/big"
	"slices"
	"testing"

	"dyehouse/api"
)

const (
	least = math.MinInt64
	most  = math.MaxInt64
)

// edges are numbers at which sums, products, quotients and shifts change their ways.
func edges() []int {
	return []int{
		least, least + 1, least + 2, least / 2, -1 << 32, -1000, -65, -64, -63, -8, -7, -3, -2, -1,
		0, 1, 2, 3, 7, 8, 62, 63, 64, 65, 127, 128, 1000, 1<<31 - 1, 1 << 31, 1 << 32, 1 << 62, most - 1, most,
	}
}

// notTwo are numbers that are no operation on two numbers.
func notTwo() []int {
	return []int{
		least, -15, -1, 0,
		api.OpCopy, api.OpLoad, api.OpStore, api.OpCall, api.OpBr, api.OpBrif, api.OpSwitch, api.OpRet,
		api.OpMove, api.OpSpill, api.OpReload, api.OpSwap, api.Ops + 1, 256 + api.OpAdd, 1<<32 + api.OpAdd, most,
	}
}

// round is what is left of a number of any size in 64 bits, in two's complement.
func round(x *big.Int) int {
	whole := new(big.Int).Lsh(big.NewInt(1), 64)
	low := new(big.Int).Mod(x, whole)
	if low.Bit(63) == 1 {
		low.Sub(low, whole)
	}
	return int(low.Int64())
}

// bit is the bit of a, in two's complement, at that place.
func bit(a, place int) bool {
	return new(big.Int).Mod(big.NewInt(int64(a)), new(big.Int).Lsh(big.NewInt(1), 64)).Bit(place) == 1
}

// ofBits is the number whose bit at each place is as told.
func ofBits(set func(place int) bool) int {
	x := new(big.Int)
	for place := range 64 {
		if set(place) {
			x.SetBit(x, place, 1)
		}
	}
	return round(x)
}

// model is what the document says Do makes, worked out another way.
func model(op, a, b int) (int, bool) {
	x, y := big.NewInt(int64(a)), big.NewInt(int64(b))
	by := int(new(big.Int).Mod(y, big.NewInt(64)).Int64())
	flag := map[bool]int{true: 1}
	switch op {
	case api.OpAdd:
		return round(x.Add(x, y)), true
	case api.OpSub:
		return round(x.Sub(x, y)), true
	case api.OpMul:
		return round(x.Mul(x, y)), true
	case api.OpAnd:
		return ofBits(func(p int) bool { return bit(a, p) && bit(b, p) }), true
	case api.OpOr:
		return ofBits(func(p int) bool { return bit(a, p) || bit(b, p) }), true
	case api.OpXor:
		return ofBits(func(p int) bool { return bit(a, p) != bit(b, p) }), true
	case api.OpShl:
		return ofBits(func(p int) bool { return p >= by && bit(a, p-by) }), true
	case api.OpShr:
		return ofBits(func(p int) bool { return p+by < 64 && bit(a, p+by) }), true
	case api.OpSar:
		return ofBits(func(p int) bool { return bit(a, min(p+by, 63)) }), true
	case api.OpDiv, api.OpRem:
		if b == 0 {
			return 0, false
		}
		q := new(big.Int).Quo(x, y)
		if op == api.OpDiv {
			return round(q), true
		}
		return round(x.Sub(x, q.Mul(q, y))), true
	case api.OpEq:
		return flag[x.Cmp(y) == 0], true
	case api.OpNe:
		return flag[x.Cmp(y) != 0], true
	case api.OpLt:
		return flag[x.Cmp(y) < 0], true
	case api.OpLe:
		return flag[x.Cmp(y) <= 0], true
	}
	return 0, false
}

// 1.1: Is holds of just the fifteen operations.
func TestIs(t *testing.T) {
	for op := api.OpAdd; op <= api.OpLe; op++ {
		if !Is(op) {
			t.Errorf("Is(%d) = false", op)
		}
	}
	for _, op := range notTwo() {
		if Is(op) {
			t.Errorf("Is(%d) = true", op)
		}
	}
}

// 1.1: Flag.
func TestFlag(t *testing.T) {
	if got := Flag(true); got != 1 {
		t.Errorf("Flag(true) = %d", got)
	}
	if got := Flag(false); got != 0 {
		t.Errorf("Flag(false) = %d", got)
	}
}

type doCase struct {
	op, a, b, want int
}

func tryDo(t *testing.T, cases []doCase) {
	t.Helper()
	for _, c := range cases {
		if got, ok := Do(c.op, c.a, c.b); got != c.want || !ok {
			t.Errorf("Do(%d, %d, %d) = %d, %t; want %d, true", c.op, c.a, c.b, got, ok, c.want)
		}
	}
}

// 1.1: what operations make of ordinary numbers.
func TestDoOrdinary(t *testing.T) {
	tryDo(t, []doCase{
		{api.OpAdd, 3, 4, 7},
		{api.OpAdd, -3, 1, -2},
		{api.OpSub, 3, 4, -1},
		{api.OpSub, 3, -4, 7},
		{api.OpMul, -6, 7, -42},
		{api.OpAnd, 12, 10, 8},
		{api.OpOr, 12, 10, 14},
		{api.OpXor, 12, 10, 6},
		{api.OpAnd, -1, 5, 5},
		{api.OpOr, -8, 3, -5},
		{api.OpXor, -1, 5, -6},
		{api.OpDiv, 7, 2, 3},
		{api.OpDiv, -7, 2, -3},
		{api.OpDiv, 7, -2, -3},
		{api.OpDiv, -7, -2, 3},
		{api.OpRem, 7, 2, 1},
		{api.OpRem, -7, 2, -1},
		{api.OpRem, 7, -2, 1},
		{api.OpRem, -7, -2, -1},
		{api.OpDiv, 0, 5, 0},
		{api.OpRem, 0, 5, 0},
	})
}

// 1.1: comparing goes by the numbers' signs, and the same number is at most itself.
func TestDoCompares(t *testing.T) {
	tryDo(t, []doCase{
		{api.OpEq, 5, 5, 1}, {api.OpEq, 5, 6, 0}, {api.OpEq, 5, -5, 0},
		{api.OpNe, 5, 5, 0}, {api.OpNe, 5, 6, 1}, {api.OpNe, least, most, 1},
		{api.OpLt, 1, 2, 1}, {api.OpLt, 2, 2, 0}, {api.OpLt, 3, 2, 0},
		{api.OpLt, -1, 0, 1}, {api.OpLt, 0, -1, 0}, {api.OpLt, least, most, 1}, {api.OpLt, most, least, 0},
		{api.OpLe, 1, 2, 1}, {api.OpLe, 2, 2, 1}, {api.OpLe, 3, 2, 0},
		{api.OpLe, -1, 0, 1}, {api.OpLe, 0, -1, 0}, {api.OpLe, least, least, 1}, {api.OpLe, most, least, 0},
	})
}

// 1.1, R7: sums, differences and products go round; so does the least number by -1.
func TestDoGoesRound(t *testing.T) {
	tryDo(t, []doCase{
		{api.OpAdd, most, 1, least},
		{api.OpAdd, least, -1, most},
		{api.OpAdd, least, least, 0},
		{api.OpSub, least, 1, most},
		{api.OpSub, 0, least, least},
		{api.OpSub, most, -1, least},
		{api.OpMul, most, 2, -2},
		{api.OpMul, least, -1, least},
		{api.OpMul, 1 << 32, 1 << 32, 0},
		{api.OpMul, 1 << 62, 2, least},
		{api.OpDiv, least, -1, least},
		{api.OpRem, least, -1, 0},
		{api.OpDiv, least, 1, least},
		{api.OpDiv, most, -1, -most},
		{api.OpRem, most, least, most},
		{api.OpDiv, least, least, 1},
	})
}

// 1.1: there is no quotient by 0, and nothing that it leaves.
func TestDoByNought(t *testing.T) {
	for _, op := range []int{api.OpDiv, api.OpRem} {
		for _, a := range edges() {
			if got, ok := Do(op, a, 0); got != 0 || ok {
				t.Errorf("Do(%d, %d, 0) = %d, %t; want 0, false", op, a, got, ok)
			}
		}
	}
}

// 1.1: what is no operation on two numbers makes none.
func TestDoOfNoOperation(t *testing.T) {
	for _, op := range notTwo() {
		for _, a := range edges() {
			for _, b := range edges() {
				if got, ok := Do(op, a, b); got != 0 || ok {
					t.Fatalf("Do(%d, %d, %d) = %d, %t; want 0, false", op, a, b, got, ok)
				}
			}
		}
	}
}

// 1.1, 1.2: every operation, at all pairs of the edges, makes what the model does.
func TestDoAgainstModel(t *testing.T) {
	for op := api.OpAdd; op <= api.OpLe; op++ {
		for _, a := range edges() {
			for _, b := range edges() {
				got, ok := Do(op, a, b)
				if want, wantOK := model(op, a, b); got != want || ok != wantOK {
					t.Errorf("Do(%d, %d, %d) = %d, %t; want %d, %t", op, a, b, got, ok, want, wantOK)
				}
			}
		}
	}
}

// 1.2: Shift is from 0 to 63, of numbers below 0, too.
func TestShift(t *testing.T) {
	cases := [][2]int{
		{0, 0}, {1, 1}, {62, 62}, {63, 63}, {64, 0}, {65, 1}, {127, 63}, {128, 0}, {1000, 40},
		{-1, 63}, {-2, 62}, {-63, 1}, {-64, 0}, {-65, 63}, {-128, 0}, {least, 0}, {least + 1, 1}, {most, 63},
	}
	for _, c := range cases {
		if got := Shift(c[0]); got != c[1] {
			t.Errorf("Shift(%d) = %d; want %d", c[0], got, c[1])
		}
	}
	for b := -300; b <= 300; b++ {
		if got := Shift(b); got < 0 || got > 63 || (b-got)%64 != 0 {
			t.Errorf("Shift(%d) = %d", b, got)
		}
	}
}

// 1.2: shifting, by 0, 63, 64, and by numbers below 0.
func TestDoShifts(t *testing.T) {
	tryDo(t, []doCase{
		{api.OpShl, 5, 0, 5}, {api.OpShl, 5, 1, 10}, {api.OpShl, 5, 63, least}, {api.OpShl, 4, 63, 0},
		{api.OpShl, 5, 64, 5}, {api.OpShl, 5, 65, 10}, {api.OpShl, 1, -1, least}, {api.OpShl, 5, -64, 5},
		{api.OpShl, -1, 63, least}, {api.OpShl, 1, most, least}, {api.OpShl, 7, least, 7},
		{api.OpShr, 5, 0, 5}, {api.OpShr, 5, 1, 2}, {api.OpShr, -1, 1, most}, {api.OpShr, -1, 63, 1},
		{api.OpShr, least, 63, 1}, {api.OpShr, -1, 64, -1}, {api.OpShr, -1, 0, -1}, {api.OpShr, -1, -1, 1},
		{api.OpShr, -8, -63, most - 3}, {api.OpShr, most, 63, 0},
		{api.OpSar, 5, 0, 5}, {api.OpSar, 5, 1, 2}, {api.OpSar, -5, 1, -3}, {api.OpSar, -1, 63, -1},
		{api.OpSar, least, 63, -1}, {api.OpSar, least, 62, -2}, {api.OpSar, -5, 64, -5}, {api.OpSar, -5, -1, -1},
		{api.OpSar, -8, -63, -4}, {api.OpSar, most, 63, 0},
	})
}

// 1.3: each operation takes what the one ahead made, and the number in its place.
func TestFold(t *testing.T) {
	cases := []struct {
		a         int
		ops, with []int
		want      int
	}{
		{7, nil, nil, 7},
		{least, []int{}, nil, least},
		{7, nil, []int{}, 7},
		{0, []int{}, []int{}, 0},
		{10, []int{api.OpSub}, []int{3}, 7},
		{10, []int{api.OpSub, api.OpMul}, []int{3, -2}, -14},
		{10, []int{api.OpMul, api.OpSub}, []int{-2, 3}, -23},
		{1, []int{api.OpShl, api.OpDiv, api.OpRem}, []int{63, -1, 10}, -8},
		{most, []int{api.OpAdd, api.OpLt, api.OpXor, api.OpLe}, []int{1, 0, 1, 0}, 1},
		{5, []int{api.OpSub, api.OpAdd}, []int{5, 0}, 0},
	}
	for _, c := range cases {
		if got, ok := Fold(c.a, c.ops, c.with); got != c.want || !ok {
			t.Errorf("Fold(%d, %v, %v) = %d, %t; want %d, true", c.a, c.ops, c.with, got, ok, c.want)
		}
	}
}

// 1.3: lists of different lengths, and one that makes none, wherever it stands.
func TestFoldMakesNone(t *testing.T) {
	cases := []struct {
		a         int
		ops, with []int
	}{
		{7, []int{api.OpAdd}, nil},
		{7, nil, []int{1}},
		{7, []int{api.OpAdd, api.OpAdd}, []int{1}},
		{7, []int{api.OpAdd}, []int{1, 2}},
		{7, []int{api.OpDiv}, []int{0}},
		{7, []int{api.OpRem, api.OpAdd}, []int{0, 1}},
		{7, []int{api.OpAdd, api.OpDiv}, []int{1, 0}},
		{7, []int{api.OpAdd, api.OpDiv, api.OpAdd}, []int{1, 0, 1}},
		{7, []int{0}, []int{1}},
		{7, []int{api.OpCopy}, []int{1}},
		{7, []int{api.OpAdd, -1}, []int{1, 1}},
		{7, []int{api.OpAdd, api.OpSwap, api.OpAdd}, []int{1, 1, 1}},
	}
	for _, c := range cases {
		if got, ok := Fold(c.a, c.ops, c.with); got != 0 || ok {
			t.Errorf("Fold(%d, %v, %v) = %d, %t; want 0, false", c.a, c.ops, c.with, got, ok)
		}
	}
}

// 1.3: of one operation Fold makes what Do does; of two what Do does of what Do did.
func TestFoldIsDoInARow(t *testing.T) {
	for op := api.OpAdd - 1; op <= api.OpLe+1; op++ {
		for _, a := range edges() {
			for _, b := range edges() {
				one, oneOK := model(op, a, b)
				if got, ok := Fold(a, []int{op}, []int{b}); got != one || ok != oneOK {
					t.Errorf("Fold of %d: %d, %d: %d, %t; want %d, %t", op, a, b, got, ok, one, oneOK)
				}
				two, twoOK := model(op, one, a)
				if !oneOK || !twoOK {
					two, twoOK = 0, false
				}
				if got, ok := Fold(a, []int{op, op}, []int{b, a}); got != two || ok != twoOK {
					t.Errorf("Fold of %d twice: %d, %d: %d, %t; want %d, %t", op, a, b, got, ok, two, twoOK)
				}
			}
		}
	}
}

// R3: the lists stay as they are, and what lies behind their lengths is not read.
func TestFoldLeavesLists(t *testing.T) {
	ops := []int{api.OpAdd, api.OpMul, api.OpDiv}
	with := []int{3, 2, 0}
	if got, ok := Fold(4, ops[:2], with[:2]); got != 14 || !ok {
		t.Errorf("Fold of the first two = %d, %t; want 14, true", got, ok)
	}
	if got, ok := Fold(4, ops[:1], with[:2]); got != 0 || ok {
		t.Errorf("Fold of different lengths = %d, %t; want 0, false", got, ok)
	}
	if !slices.Equal(ops, []int{api.OpAdd, api.OpMul, api.OpDiv}) || !slices.Equal(with, []int{3, 2, 0}) {
		t.Errorf("the lists were changed: %v, %v", ops, with)
	}
}

// 1.3: long lists are gone through to the end.
func TestFoldLong(t *testing.T) {
	ops, with := make([]int, 10000), make([]int, 10000)
	for i := range ops {
		ops[i], with[i] = api.OpAdd, i
	}
	if got, ok := Fold(5, ops, with); got != 5+9999*10000/2 || !ok {
		t.Errorf("Fold of many = %d, %t", got, ok)
	}
}
