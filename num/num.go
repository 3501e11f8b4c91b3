// Package num is layer 01: see shared/doc/01-num.md.
package num

import "dyehouse/api"

// Is tells whether an operation makes a number of two others.
func Is(op int) bool {
	return api.OpAdd <= op && op <= api.OpLe
}

// Flag is 1 of what is so, else 0.
func Flag(is bool) int {
	if is {
		return 1
	}
	return 0
}

// Shift is by how many bits is shifted.
func Shift(b int) int {
	// 64 is a power of 2: its lowest bits are what is left of numbers below 0, too, where % would be negative.
	return b & 63
}

// Do is what an operation makes of two numbers; false: it makes none.
func Do(op, a, b int) (int, bool) {
	switch op {
	case api.OpAdd:
		return a + b, true
	case api.OpSub:
		return a - b, true
	case api.OpMul:
		return a * b, true
	case api.OpAnd:
		return a & b, true
	case api.OpOr:
		return a | b, true
	case api.OpXor:
		return a ^ b, true
	case api.OpShl, api.OpShr, api.OpSar:
		return shifted(op, a, Shift(b)), true
	case api.OpDiv, api.OpRem:
		return divided(op, a, b)
	case api.OpEq, api.OpNe, api.OpLt, api.OpLe:
		return Flag(holds(op, a, b)), true
	}
	return 0, false
}

// shifted is a, shifted by that many bits, from 0 to 63.
func shifted(op, a, by int) int {
	switch op {
	case api.OpShl:
		return a << by
	case api.OpShr:
		// Without a sign there is none that could be drawn in ahead.
		return int(uint64(a) >> by)
	}
	return a >> by
}

// divided is the quotient, or what is left; false: there is none by 0.
func divided(op, a, b int) (int, bool) {
	if b == 0 {
		return 0, false
	}
	// The least number by -1 goes round in Go as it is promised: the quotient is itself, and nothing is left.
	if op == api.OpDiv {
		return a / b, true
	}
	return a % b, true
}

// holds tells whether a and b compare as the operation asks.
func holds(op, a, b int) bool {
	switch op {
	case api.OpEq:
		return a == b
	case api.OpNe:
		return a != b
	case api.OpLe:
		if a == b {
			return true
		}
		// What is not the same is at most the other one just where it is less.
		fallthrough
	case api.OpLt:
		return a < b
	}
	return false
}

// Fold is what operations make, one behind the other, of a number, and the number that each has; false: one makes none.
func Fold(a int, ops, with []int) (int, bool) {
	if len(ops) != len(with) {
		return 0, false
	}
	for i, op := range ops {
		made, ok := Do(op, a, with[i])
		if !ok {
			return 0, false
		}
		a = made
	}
	return a, true
}
