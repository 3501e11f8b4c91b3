package graph

import (
	"math"
	"reflect"
	"slices"
	"strconv"
	"strings"
	"testing"

	"dyehouse/api"
	"dyehouse/bits"
	"dyehouse/ir"
)

const (
	least    = math.MinInt64
	greatest = math.MaxInt64
)

// far are numbers of which there is no block, in a graph of some blocks.
func far(blocks int) []int {
	return []int{-1, -2, -blocks, -blocks - 1, blocks, blocks + 1, 64, 1 << 20, api.MaxID, api.MaxID + 1, 1 << 32, 1<<32 + 1, -1 << 32, 1 - 1<<32, least, least + 1, greatest - 1, greatest}
}

// roomy is a list with memory behind its length, in which there are other elements.
func roomy[T any](behind T, list ...T) []T {
	all := append(slices.Clone(list), behind, behind, behind)
	return all[:len(list)]
}

// last is a block whose one instruction has an operation, and labels.
func last(label string, op int, labels ...string) api.Block {
	return api.Block{Label: label, Code: []api.Instr{{Op: op, Labels: labels}}}
}

// block is a block that goes on with those of some labels.
func block(label string, labels ...string) api.Block {
	return last(label, api.OpSwitch, labels...)
}

// function is a function of blocks.
func function(blocks ...api.Block) api.Func {
	return api.Func{Name: "f", Blocks: blocks}
}

// letters makes blocks out of words: the first letter of each is its block's label, all others are those with which it goes on.
func letters(words string) api.Func {
	var blocks []api.Block
	for _, word := range strings.Fields(words) {
		blocks = append(blocks, block(word[:1], strings.Split(word[1:], "")...))
	}
	return function(blocks...)
}

// row is blocks one behind the other, each of which goes on with the next one; the last one with none.
func row(many int) []api.Block {
	var blocks []api.Block
	for i := range many {
		blocks = append(blocks, last("b"+strconv.Itoa(i), api.OpBr, "b"+strconv.Itoa(i+1)))
	}
	return blocks
}

// count is all numbers from one on, below another one.
func count(from, to int) []int {
	var list []int
	for i := from; i < to; i++ {
		list = append(list, i)
	}
	return list
}

// back is a list, the last one first.
func back(list []int) []int {
	list = slices.Clone(list)
	slices.Reverse(list)
	return list
}

// is asks whether a list has these.
func is(t *testing.T, what string, got []int, want ...int) {
	t.Helper()
	if !slices.Equal(got, want) {
		t.Errorf("%s: %v, not %v", what, got, want)
	}
}

// isSet asks whether a set has these, and may have all below a bound.
func isSet(t *testing.T, what string, got *bits.Set, bound int, want ...int) {
	t.Helper()
	if got == nil {
		t.Errorf("%s: nil", what)
		return
	}
	is(t, what, got.List(), want...)
	if got.Bound() != bound {
		t.Errorf("%s: below %d, not below %d", what, got.Bound(), bound)
	}
}

// goes asks with which blocks each goes on, and what follows of that for Pred and for Edges.
func goes(t *testing.T, what string, g *Graph, want ...[]int) {
	t.Helper()
	if g.Len() != len(want) {
		t.Errorf("%s: %d blocks, not %d", what, g.Len(), len(want))
		return
	}
	pred := make([][]int, len(want))
	var edges [][2]int
	for i, succ := range want {
		is(t, what+": Succ of "+strconv.Itoa(i), g.Succ(i), succ...)
		for to := range want {
			if slices.Contains(succ, to) {
				pred[to] = append(pred[to], i)
				edges = append(edges, [2]int{i, to})
			}
		}
	}
	for i, from := range pred {
		is(t, what+": Pred of "+strconv.Itoa(i), g.Pred(i), from...)
	}
	if !slices.Equal(g.Edges(), edges) {
		t.Errorf("%s: Edges %v, not %v", what, g.Edges(), edges)
	}
}

// ordered asks which blocks are reached, and in which order.
func ordered(t *testing.T, what string, g *Graph, want ...int) {
	t.Helper()
	is(t, what+": Order", g.Order(), want...)
	reached := slices.Clone(want)
	slices.Sort(reached)
	isSet(t, what+": Reached", g.Reached(), g.Len(), reached...)
}

// TestExample: the chapter's example, with all that it doesn't tell.
func TestExample(t *testing.T) {
	g := New(letters("acb bd cd d"))
	goes(t, "example", g, []int{2, 1}, []int{3}, []int{3}, nil)
	ordered(t, "example", g, 0, 1, 2, 3)
	isSet(t, "to d", g.Away(3, -1), 4, 0, 1, 2, 3)
	isSet(t, "to d without b", g.Away(3, 1), 4, 0, 2, 3)
	isSet(t, "to d without a", g.Away(3, 0), 4, 1, 2, 3)
}

// TestNone: a function without blocks, and no graph at all.
func TestNone(t *testing.T) {
	whole := api.Func{
		Machine: true,
		Name:    "f",
		Regs:    []api.Reg{{ID: 1, Class: api.ClassX}},
		Params:  []api.Operand{{Kind: api.Vreg, N: 1}},
	}
	var none *Graph
	for _, g := range []*Graph{none, New(api.Func{}), New(whole), New(api.Func{Blocks: []api.Block{}}), New(api.Func{Blocks: roomy(block("a", "a"))})} {
		goes(t, "none", g)
		ordered(t, "none", g)
		for _, i := range append(far(0), 0, 1) {
			is(t, "Succ", g.Succ(i))
			is(t, "Pred", g.Pred(i))
			for _, without := range append(far(0), 0, 1) {
				isSet(t, "Away", g.Away(i, without), 0)
			}
		}
	}
	if New(api.Func{}) == nil {
		t.Error("New: nil")
	}
}

// TestFar: of a block that there is not nothing is told, and it stands in no way.
func TestFar(t *testing.T) {
	g := New(letters("abc ba cc"))
	goes(t, "far", g, []int{1, 2}, []int{0}, []int{2})
	for _, i := range far(3) {
		is(t, "Succ", g.Succ(i))
		is(t, "Pred", g.Pred(i))
		for _, other := range append(far(3), 0, 1, 2) {
			isSet(t, "Away to none", g.Away(i, other), 3)
		}
		isSet(t, "Away to a", g.Away(0, i), 3, 0, 1)
		isSet(t, "Away to b", g.Away(1, i), 3, 0, 1)
		isSet(t, "Away to c", g.Away(2, i), 3, 0, 1, 2)
	}
}

// TestNoCode: blocks without code go on with none.
func TestNoCode(t *testing.T) {
	g := New(function(api.Block{Label: "a"}, api.Block{Label: "b", Code: []api.Instr{}}, api.Block{Label: "c", Code: roomy(api.Instr{Op: api.OpBr, Labels: []string{"a"}})}))
	goes(t, "no code", g, nil, nil, nil)
	ordered(t, "no code", g, 0)
	g = New(function(api.Block{Label: "a"}, block("b", "a", "b", "c"), api.Block{Label: "c"}))
	goes(t, "some code", g, nil, []int{0, 1, 2}, nil)
	ordered(t, "some code", g, 0)
	isSet(t, "to a", g.Away(0, -1), 3, 0, 1)
}

// TestOperations: just those that end a block let it go on, by all labels that they have.
func TestOperations(t *testing.T) {
	ends := []int{api.OpBr, api.OpBrif, api.OpSwitch, api.OpRet}
	for _, op := range append(count(-2, 40), far(27)...) {
		for _, c := range []struct {
			labels []string
			want   []int
		}{
			{nil, nil},
			{[]string{"b"}, []int{1}},
			{[]string{"c", "b"}, []int{2, 1}},
			{[]string{"a", "c", "b"}, []int{0, 2, 1}},
			{[]string{"b", "c", "d", "b", "x", "a"}, []int{1, 2, 3, 0}},
		} {
			g := New(function(last("a", op, c.labels...), last("b", op, "c"), last("c", op), last("d", op, "d")))
			want := make([][]int, 4)
			if slices.Contains(ends, op) {
				want = [][]int{c.want, {2}, nil, {3}}
			}
			goes(t, "operation "+strconv.Itoa(op), g, want...)
		}
	}
}

// TestLastAlone: a block goes on by its last instruction, whatever the other ones are.
func TestLastAlone(t *testing.T) {
	instr := func(op int, labels ...string) api.Instr { return api.Instr{Op: op, Labels: labels} }
	for op := -1; op <= api.Ops+1; op++ {
		g := New(function(
			api.Block{Label: "a", Code: []api.Instr{instr(op, "a", "b", "c"), instr(api.OpBr, "b")}},
			api.Block{Label: "b", Code: []api.Instr{instr(api.OpBr, "c"), instr(op, "a"), instr(api.OpCopy, "a", "b")}},
			api.Block{Label: "c", Code: []api.Instr{instr(api.OpBrif, "c"), instr(op, "b"), instr(api.OpRet)}},
			api.Block{Label: "d", Code: roomy(instr(op, "d"), instr(op, "b"), instr(api.OpSwitch, "c", "a"))},
		))
		goes(t, "last alone, "+strconv.Itoa(op), g, []int{1}, nil, nil, []int{2, 0})
	}
}

// TestLabelCount: an instruction that ends a block has as many labels as it has, whatever its operation should have.
func TestLabelCount(t *testing.T) {
	var many, turned []string
	blocks := []api.Block{{Label: "first"}}
	for i := range 300 {
		label := "b" + strconv.Itoa(i)
		blocks = append(blocks, api.Block{Label: label})
		many = append(many, label)
	}
	for i := range 300 {
		turned = append(turned, many[(i*7+3)%300])
	}
	for _, op := range []int{api.OpBr, api.OpBrif, api.OpSwitch, api.OpRet} {
		for _, cases := range [][]int{nil, {5}, {1, 2, 3}, count(0, 299), count(0, 400)} {
			for _, n := range []int{0, 1, 2, 3, 17, 300} {
				end := api.Instr{Op: op, Cases: cases, Labels: turned[:n]}
				blocks[0].Code = []api.Instr{end}
				var want []int
				for i := range n {
					want = append(want, (i*7+3)%300+1)
				}
				g := New(function(blocks...))
				is(t, "Succ", g.Succ(0), want...)
				for i := range 300 {
					if slices.Contains(want, i+1) {
						is(t, "Pred", g.Pred(i+1), 0)
					} else {
						is(t, "Pred", g.Pred(i+1))
					}
				}
				slices.Sort(want)
				for i, edge := range g.Edges() {
					if edge != [2]int{0, want[i]} {
						t.Errorf("Edges: %v, not %v", edge, want[i])
					}
				}
				if len(g.Edges()) != n {
					t.Errorf("%d Edges, not %d", len(g.Edges()), n)
				}
			}
		}
	}
}

// TestLabels: of each label the first block of that label, byte by byte, each once.
func TestLabels(t *testing.T) {
	for _, c := range []struct {
		what   string
		blocks []api.Block
		want   [][]int
	}{
		{"no block has it", []api.Block{block("a", "x"), block("b", "y", "a", "z")}, [][]int{nil, {0}}},
		{"the empty one, that none has", []api.Block{block("a", ""), block("b", "", "b")}, [][]int{nil, {1}}},
		{"the empty one, that one has", []api.Block{block("a", ""), block("", "a"), block("c", "c", "")}, [][]int{{1}, {0}, {2, 1}}},
		{"the empty one, that two have", []api.Block{block("a", "c", ""), block("", "a"), block("", "c"), block("c")}, [][]int{{3, 1}, {0}, {3}, nil}},
		{"the empty one of the first", []api.Block{block("", ""), block("b", "")}, [][]int{{0}, {0}}},
		{"two have it", []api.Block{block("a", "b"), block("b", "b"), block("b", "a", "b")}, [][]int{{1}, {1}, {0, 1}}},
		{"all have it", []api.Block{block("a", "a"), block("a", "a", "a"), block("a")}, [][]int{{0}, {0}, nil}},
		{"the second of two alone goes on", []api.Block{block("a", "b"), block("b"), block("b", "c"), block("c")}, [][]int{{1}, nil, {3}, nil}},
		{"its own", []api.Block{block("a", "a"), block("b", "a", "b")}, [][]int{{0}, {0, 1}}},
		{"its own, that an earlier one has", []api.Block{block("a"), block("b"), block("a", "a")}, [][]int{nil, nil, {0}}},
		{"twice", []api.Block{block("a", "b", "b"), block("b", "a", "b", "a", "b", "b")}, [][]int{{1}, {0, 1}}},
		{"twice, others between", []api.Block{block("a", "c", "b", "c", "a", "b"), block("b"), block("c")}, [][]int{{2, 1, 0}, nil, nil}},
		{"twice, of none", []api.Block{block("a", "x", "x", "a", "x")}, [][]int{{0}}},
		{"another order", []api.Block{block("a", "c", "b"), block("b", "c", "a"), block("c", "c", "b", "a")}, [][]int{{2, 1}, {2, 0}, {2, 1, 0}}},
		{"nearly", []api.Block{block("a", "A", "a ", " a", "aa", "a\x00", "\x00a", "a.b", "b.a", "b:"), block("aa", "a", "aaa"), block("a.b", "a.", ".b", "b", "a.b")}, [][]int{{1, 2}, {0}, {2}}},
		{"any bytes", []api.Block{block("\xff", "\xfe", "\x00"), block("\x00", "\xff", "\xc3"), block("\xc3\xbc", "u\u0308", "\u00fc", "\xc3")}, [][]int{{1}, {0}, {2}}},
		{"long ones", []api.Block{block(strings.Repeat("l", 5000), strings.Repeat("l", 4999), strings.Repeat("l", 5001)), block(strings.Repeat("l", 5001), strings.Repeat("l", 5000))}, [][]int{{1}, {0}}},
	} {
		goes(t, c.what, New(function(c.blocks...)), c.want...)
	}
}

// TestPred: those that go on with a block rise, each once, whatever stands in their labels' order.
func TestPred(t *testing.T) {
	g := New(letters("adbad b cdddd dcba eabcde fd"))
	is(t, "of a", g.Pred(0), 0, 3, 4)
	is(t, "of b", g.Pred(1), 0, 3, 4)
	is(t, "of c", g.Pred(2), 3, 4)
	is(t, "of d", g.Pred(3), 0, 2, 4, 5)
	is(t, "of e", g.Pred(4), 4)
	is(t, "of f", g.Pred(5))
}

// TestEdges: all pairs, rising by the first, then by the second number.
func TestEdges(t *testing.T) {
	want := [][2]int{{0, 0}, {0, 1}, {0, 3}, {2, 3}, {3, 0}, {3, 1}, {3, 2}, {4, 0}, {4, 4}}
	if got := New(letters("adbad b cdddd dcba eea")).Edges(); !slices.Equal(got, want) {
		t.Errorf("Edges: %v, not %v", got, want)
	}
	for _, words := range []string{"", "a", "ax bx c"} {
		if got := New(letters(words)).Edges(); len(got) != 0 {
			t.Errorf("Edges: %v, not none", got)
		}
	}
}

// TestBeside: what beside labels stands in a function changes nothing.
func TestBeside(t *testing.T) {
	plain := letters("acb bda cdc d ed")
	operands := []api.Operand{{}, {Kind: api.Vreg, N: 3}, {Kind: api.Preg, Class: api.ClassX, N: 1, Tag: 4}, {Kind: api.Slot, N: -5, Tag: least}, {Kind: api.Imm, N: greatest}, {Kind: 99, Class: -1, N: -1, Tag: -1}}
	for which := range 64 {
		f := ir.Copy(plain)
		for b := range f.Blocks {
			at := &f.Blocks[b]
			if which&1 != 0 {
				at.Edge = true
			}
			if which&2 != 0 {
				at.In = operands
			}
			if which&4 != 0 {
				at.Code[0].Args = operands
				at.Code[0].Dst = operands[b]
			}
			if which&8 != 0 {
				at.Code[0].Cases = []int{b, least, greatest, 0}
				at.Code[0].Name = "d"
				at.Code[0].Off = b
			}
			if which&16 != 0 {
				at.Code = append([]api.Instr{{Op: api.OpCall, Name: "a", Dst: operands[b], Args: operands}}, at.Code...)
			}
		}
		if which&32 != 0 {
			f.Machine, f.Name, f.Params = true, "a", operands
			f.Regs = []api.Reg{{ID: 3}, {ID: 3, Class: 9}}
		}
		g := New(f)
		goes(t, "beside", g, []int{2, 1}, []int{3, 0}, []int{3, 2}, nil, []int{3})
		ordered(t, "beside", g, 0, 1, 2, 3)
		isSet(t, "beside", g.Away(3, 2), 5, 0, 1, 3, 4)
	}
}

// TestOrder: the one that was left last first.
func TestOrder(t *testing.T) {
	for _, c := range []struct {
		words string
		want  []int
	}{
		{"a", []int{0}},
		{"aa", []int{0}},
		{"a b c", []int{0}},
		{"ab bc c", []int{0, 1, 2}},
		{"ac b cb", []int{0, 2, 1}},
		{"abc b c", []int{0, 2, 1}},
		{"acb b c", []int{0, 1, 2}},
		{"abcd b c d", []int{0, 3, 2, 1}},
		{"acdb b c d", []int{0, 1, 3, 2}},
		// Ways that meet.
		{"abc bd cd d", []int{0, 2, 1, 3}},
		{"acb bd cd d", []int{0, 1, 2, 3}},
		{"abcd bd cd d", []int{0, 2, 1, 3}},
		{"adbc bd cd d", []int{0, 2, 1, 3}},
		// Met first on a longer way.
		{"abd bc cd d", []int{0, 1, 2, 3}},
		{"abd bc cd db", []int{0, 1, 2, 3}},
		{"adb bc cd d", []int{0, 1, 2, 3}},
		{"adb bc cd db", []int{0, 3, 1, 2}},
		{"abe bc cd dea e", []int{0, 1, 2, 3, 4}},
		{"aeb bc cd de ec", []int{0, 1, 4, 2, 3}},
		// Round and round: with itself, two with each other, back to the first one, out of it.
		{"abb bb", []int{0, 1}},
		{"ab ba", []int{0, 1}},
		{"ab bca cb", []int{0, 1, 2}},
		{"ab bac ca", []int{0, 1, 2}},
		{"ab bcd cb d", []int{0, 1, 3, 2}},
		{"ab bdc cb d", []int{0, 1, 2, 3}},
		{"aab bbac ccab", []int{0, 1, 2}},
		{"abc bc cb", []int{0, 1, 2}},
		{"acb bc cb", []int{0, 2, 1}},
		// Not reached: alone, in a row, going on with what is reached, round.
		{"ac bc c", []int{0, 2}},
		{"ac bd c db eabcde", []int{0, 2}},
		{"a bca cba", []int{0}},
		{"ad bb c dd", []int{0, 3}},
	} {
		ordered(t, c.words, New(letters(c.words)), c.want...)
	}
}

// TestSecondOfLabel: the first block of a label alone is reached by it.
func TestSecondOfLabel(t *testing.T) {
	g := New(letters("ab bc bd c d"))
	ordered(t, "second", g, 0, 1, 3)
	isSet(t, "to d", g.Away(4, -1), 5, 2, 4)
}

// TestLongRow: rows of thousands of blocks.
func TestLongRow(t *testing.T) {
	const many = 4000
	g := New(function(row(many)...))
	ordered(t, "row", g, count(0, many)...)
	isSet(t, "row to its end", g.Away(many-1, -1), many, count(0, many)...)
	isSet(t, "row without its middle", g.Away(many-1, 2000), many, count(2001, many)...)
	isSet(t, "row to its first", g.Away(0, 1), many, 0)

	blocks := row(many)
	slices.Reverse(blocks[1:])
	g = New(function(blocks...))
	turned := append([]int{0}, back(count(1, many))...)
	ordered(t, "turned row", g, turned...)
	isSet(t, "turned row to its end", g.Away(1, 2000), many, count(1, 2000)...)

	blocks = row(many)
	blocks[many-1].Code[0].Labels = []string{"b0"}
	g = New(function(blocks...))
	ordered(t, "ring", g, count(0, many)...)
	isSet(t, "ring", g.Away(7, -1), many, count(0, many)...)
	isSet(t, "ring, opened", g.Away(7, 8), many, append(count(0, 8), count(9, many)...)...)

	slices.Reverse(blocks)
	g = New(function(blocks...))
	ordered(t, "turned ring", g, append([]int{0}, back(count(1, many))...)...)
	if len(g.Edges()) != many || g.Edges()[0] != [2]int{0, many - 1} || g.Edges()[1] != [2]int{1, 0} {
		t.Error("turned ring: Edges")
	}
}

// TestLadder: so many ways meet again and again that nobody could go each of them.
func TestLadder(t *testing.T) {
	const rungs = 1000
	var blocks []api.Block
	var order, straight []int
	for i := range rungs {
		a, b, c, next := "a"+strconv.Itoa(i), "b"+strconv.Itoa(i), "c"+strconv.Itoa(i), "a"+strconv.Itoa(i+1)
		blocks = append(blocks, block(a, b, c), block(b, next), block(c, next))
		order = append(order, 3*i, 3*i+2, 3*i+1)
		straight = append(straight, 3*i, 3*i+1, 3*i+2)
	}
	g := New(function(blocks...))
	ordered(t, "ladder", g, order...)
	isSet(t, "ladder", g.Away(3*rungs-1, 3*rungs-2), 3*rungs, append(straight[:3*rungs-2:3*rungs-2], 3*rungs-1)...)
	isSet(t, "cut ladder", g.Away(3*rungs-1, 300), 3*rungs, append(count(301, 3*rungs-2), 3*rungs-1)...)
}

// TestAllToAll: each block goes on with all of them.
func TestAllToAll(t *testing.T) {
	const many = api.MaxBlocks + 1
	var labels []string
	for i := range many {
		labels = append(labels, "b"+strconv.Itoa(i))
	}
	var blocks []api.Block
	for _, label := range labels {
		blocks = append(blocks, block(label, labels...))
	}
	g := New(function(blocks...))
	ordered(t, "all to all", g, count(0, many)...)
	for i := range many {
		is(t, "Succ", g.Succ(i), count(0, many)...)
		is(t, "Pred", g.Pred(i), count(0, many)...)
		isSet(t, "Away", g.Away(i, 20), many, slices.DeleteFunc(count(0, many), func(b int) bool { return b == 20 || i == 20 })...)
	}
	if edges := g.Edges(); len(edges) != many*many || !slices.IsSortedFunc(edges, func(a, b [2]int) int { return slices.Compare(a[:], b[:]) }) {
		t.Error("Edges")
	}
}

// TestAway: from which blocks one is reached without another one.
func TestAway(t *testing.T) {
	for _, c := range []struct {
		words       string
		to, without int
		want        []int
	}{
		{"a", 0, -1, []int{0}},
		{"a", 0, 1, []int{0}},
		{"a", 0, 0, nil},
		{"aa", 0, 0, nil},
		{"aa", 0, -1, []int{0}},
		{"a", 1, 0, nil},
		{"a", -1, 0, nil},
		{"a", -1, -1, nil},
		{"a", 1, 1, nil},
		// Itself, though it goes on with none, and none goes on with it.
		{"ab b c", 2, 0, []int{2}},
		{"ab b c", 2, -1, []int{2}},
		// Only through the other one.
		{"ab bc c", 2, 1, []int{2}},
		{"ab bc c", 2, 0, []int{1, 2}},
		{"ab bc c", 1, 2, []int{0, 1}},
		{"ab bc cd d", 3, 2, []int{3}},
		{"ab bc cd d", 3, 1, []int{2, 3}},
		// Round it.
		{"abc bd cd d", 3, 1, []int{0, 2, 3}},
		{"abc bd cd d", 3, 2, []int{0, 1, 3}},
		{"abc bd cd d", 3, 0, []int{1, 2, 3}},
		{"abd bc cd d", 3, 1, []int{0, 2, 3}},
		{"abd bc cd d", 3, 2, []int{0, 3}},
		// That one goes on with the other one, too, is no matter.
		{"abc bb cb", 1, 2, []int{0, 1}},
		// Not reached from block 0.
		{"a bc cb", 1, -1, []int{1, 2}},
		{"a bc cb", 1, 0, []int{1, 2}},
		{"a bc cb", 1, 2, []int{1}},
		{"aa bc cd d", 3, 0, []int{1, 2, 3}},
		{"aa ba ca", 0, 1, []int{0, 2}},
		// Round and round.
		{"ab bc ca", 0, 1, []int{0, 2}},
		{"ab bc ca", 1, 0, []int{1}},
		{"ab bc ca", 2, 0, []int{1, 2}},
		{"ab bcd cb d", 2, 3, []int{0, 1, 2}},
		{"ab bcd cb d", 2, 1, []int{2}},
		{"ab bcd cb d", 3, 2, []int{0, 1, 3}},
	} {
		g := New(letters(c.words))
		isSet(t, c.words+": to "+strconv.Itoa(c.to)+" without "+strconv.Itoa(c.without), g.Away(c.to, c.without), g.Len(), c.want...)
	}
}

// answers is all that a graph answers.
func answers(g *Graph) []any {
	all := []any{g.Len(), g.Edges(), g.Order(), g.Reached().List()}
	for i := -1; i <= g.Len(); i++ {
		all = append(all, g.Succ(i), g.Pred(i))
		for without := -1; without <= g.Len(); without++ {
			all = append(all, g.Away(i, without).List())
		}
	}
	return all
}

// TestKept: what is handed in is not changed, nor what lies behind it; and what is done to it behind the call changes no answer.
func TestKept(t *testing.T) {
	for _, words := range []string{"", "a", "acb bda cdc d ed", "abbb ba cabc", "aba bab"} {
		make := func() api.Func {
			f := letters(words)
			for b := range f.Blocks {
				at := &f.Blocks[b]
				at.Code[0].Labels = roomy("a", at.Code[0].Labels...)
				at.Code[0].Args = roomy(api.Operand{Kind: api.Imm, N: 1}, api.Operand{Kind: api.Imm, N: 2})
				at.Code[0].Cases = roomy(1, 2, 3)
				at.In = roomy(api.Operand{Kind: api.Imm, N: 3}, api.Operand{Kind: api.Imm, N: 4})
				at.Code = roomy(api.Instr{Op: api.OpBr, Labels: []string{"a"}}, at.Code...)
			}
			f.Blocks = roomy(block("b", "a"), f.Blocks...)
			return f
		}
		want := answers(New(letters(words)))
		f := make()
		g := New(f)
		if !reflect.DeepEqual(answers(g), want) {
			t.Errorf("%s: what lies behind the lists was read", words)
		}
		behind := f.Blocks[:cap(f.Blocks)]
		if !reflect.DeepEqual(behind, make().Blocks[:cap(behind)]) {
			t.Errorf("%s: what was handed in was changed", words)
		}
		for b := range behind {
			at := &behind[b]
			for i := range at.Code[:cap(at.Code)] {
				instr := &at.Code[:cap(at.Code)][i]
				for l := range instr.Labels[:cap(instr.Labels)] {
					instr.Labels[:cap(instr.Labels)][l] = "c"
				}
				instr.Op, instr.Labels = api.OpCopy, nil
			}
			*at = api.Block{Label: "none"}
		}
		if !reflect.DeepEqual(answers(g), want) {
			t.Errorf("%s: a change of the function changed an answer", words)
		}
	}
}

// spoil changes all of a list, and what lies behind it.
func spoil[T any](list []T, with T) {
	list = list[:cap(list)]
	for i := range list {
		list[i] = with
	}
}

// TestOwn: what is answered can be changed, and what is asked next is as before.
func TestOwn(t *testing.T) {
	for _, words := range []string{"", "a", "acb bda cdc d ed", "abbb ba cabc", "aba bab", "abcdef bdfa cabcdef dcba e f"} {
		g := New(letters(words))
		want := answers(g)
		for range 3 {
			for i := -1; i <= g.Len(); i++ {
				succ, pred := g.Succ(i), g.Pred(i)
				spoil(succ, 77)
				spoil(pred, 78)
				_, _ = append(succ, 1), append(pred, 2)
				for without := -1; without <= g.Len(); without++ {
					away := g.Away(i, without)
					away.Or(bits.Full(g.Len()))
					away = g.Away(i, without)
					away.Minus(bits.Full(g.Len()))
				}
			}
			spoil(g.Edges(), [2]int{7, 7})
			spoil(g.Order(), 79)
			g.Reached().Minus(bits.Full(g.Len()))
			g.Reached().Or(bits.Full(g.Len()))
			if !reflect.DeepEqual(answers(g), want) {
				t.Errorf("%s: a change of an answer changed another one", words)
			}
		}
	}
}

// TestApart: no two lists, and no two sets, of two answers share memory, so that a change of one of them doesn't show in the other.
func TestApart(t *testing.T) {
	g := New(letters("abc bca cab"))
	for i := range 3 {
		first, second := g.Succ(i), g.Succ(i)
		spoil(first, 77)
		is(t, "Succ", second, (i+1)%3, (i+2)%3)
		first, second = g.Pred(i), g.Pred(i)
		spoil(first, 77)
		is(t, "Pred", second, min((i+1)%3, (i+2)%3), max((i+1)%3, (i+2)%3))
		away, again := g.Away(i, -1), g.Away(i, -1)
		away.Drop(0)
		isSet(t, "Away", again, 3, 0, 1, 2)
	}
	edges, others := g.Edges(), g.Edges()
	spoil(edges, [2]int{9, 9})
	if others[0] != [2]int{0, 1} {
		t.Error("Edges")
	}
	order, other := g.Order(), g.Order()
	spoil(order, 77)
	is(t, "Order", other, 0, 1, 2)
	reached, once := g.Reached(), g.Reached()
	reached.Drop(1)
	isSet(t, "Reached", once, 3, 0, 1, 2)
}

// TestTwoGraphs: two graphs know nothing of each other.
func TestTwoGraphs(t *testing.T) {
	one, two := New(letters("ab b")), New(letters("aa bc ca"))
	goes(t, "one", one, []int{1}, nil)
	goes(t, "two", two, []int{0}, []int{2}, []int{0})
	ordered(t, "one", one, 0, 1)
	ordered(t, "two", two, 0)
	goes(t, "one", one, []int{1}, nil)
}
