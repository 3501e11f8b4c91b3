package dom

import (
	"math"
	"reflect"
	"slices"
	"strconv"
	"strings"
	"testing"

	"dyehouse/api"
	"dyehouse/bits"
	"dyehouse/graph"
)

const (
	least    = math.MinInt64
	greatest = math.MaxInt64
)

// far are numbers of which there is no block, in a graph of some blocks.
func far(blocks int) []int {
	return []int{-1, -2, -blocks - 1, blocks, blocks + 1, 1 << 20, api.MaxID, api.MaxID + 1, 1 << 32, 1<<32 + 1, -1 << 32, 1 - 1<<32, least, least + 1, greatest - 1, greatest}
}

// block is a block that goes on with those of some labels.
func block(label string, labels ...string) api.Block {
	return api.Block{Label: label, Code: []api.Instr{{Op: api.OpSwitch, Labels: labels}}}
}

// function is a function of blocks.
func function(blocks ...api.Block) api.Func {
	return api.Func{Name: "f", Blocks: blocks}
}

// letters makes blocks out of words: the first letter of each is its block's label, all others are those with which it goes on.
func letters(words string) api.Func {
	var blocks []api.Block
	for _, word := range strings.Fields(words) {
		blocks = append(blocks, block(word[:1], strings.Split(word[1:], "")...))
	}
	return function(blocks...)
}

// joins is a function of so many blocks; with which ones each goes on is asked for.
func joins(many int, next func(i int) []int) api.Func {
	var blocks []api.Block
	for i := range many {
		var labels []string
		for _, to := range next(i) {
			labels = append(labels, "b"+strconv.Itoa(to))
		}
		blocks = append(blocks, block("b"+strconv.Itoa(i), labels...))
	}
	return function(blocks...)
}

// count is all numbers from one on, below another one.
func count(from, to int) []int {
	var list []int
	for i := from; i < to; i++ {
		list = append(list, i)
	}
	return list
}

// back is a list, the last one first.
func back(list []int) []int {
	list = slices.Clone(list)
	slices.Reverse(list)
	return list
}

// is asks whether a list has these.
func is(t *testing.T, what string, got []int, want ...int) {
	t.Helper()
	if !slices.Equal(got, want) {
		t.Errorf("%s: %v, not %v", what, got, want)
	}
}

// isSet asks whether a set has these, and may have all below a bound.
func isSet(t *testing.T, what string, got *bits.Set, bound int, want ...int) {
	t.Helper()
	if got == nil {
		t.Errorf("%s: nil", what)
		return
	}
	is(t, what, got.List(), want...)
	if got.Bound() != bound {
		t.Errorf("%s: below %d, not below %d", what, got.Bound(), bound)
	}
}

// climbed is, for each block, those that dominate it, itself first, as it follows of each one's Idom.
func climbed(idom []int) [][]int {
	over := make([][]int, len(idom))
	for i := range idom {
		if i > 0 && idom[i] < 0 {
			continue
		}
		for at := i; at >= 0; at = idom[at] {
			over[i] = append(over[i], at)
		}
	}
	return over
}

// like asks a tree all of each block, and of each pair of them, of which these are the Idoms; -1: it has none, or isn't reached.
func like(t *testing.T, what string, tree *Tree, idom ...int) {
	t.Helper()
	kids, below := make([][]int, len(idom)), make([][]int, len(idom))
	for i, over := range climbed(idom) {
		if got := tree.Idom(i); got != idom[i] {
			t.Errorf("%s: Idom of %d: %d, not %d", what, i, got, idom[i])
		}
		if got := tree.Depth(i); got != len(over) {
			t.Errorf("%s: Depth of %d: %d, not %d", what, i, got, len(over))
		}
		is(t, what+": Over of "+strconv.Itoa(i), tree.Over(i), over...)
		dominates := make([]int, len(idom))
		for _, a := range over {
			dominates[a] = 1
			below[a] = append(below[a], i)
		}
		for a, does := range dominates {
			if got := tree.Is(a, i); got != (does == 1) {
				t.Errorf("%s: does %d dominate %d: %t", what, a, i, got)
			}
		}
		if idom[i] >= 0 {
			kids[idom[i]] = append(kids[idom[i]], i)
		}
	}
	for i := range idom {
		is(t, what+": Kids of "+strconv.Itoa(i), tree.Kids(i), kids[i]...)
		isSet(t, what+": Below of "+strconv.Itoa(i), tree.Below(i), len(idom), below[i]...)
	}
}

// likeNone asks a tree of numbers of which it has no block.
func likeNone(t *testing.T, what string, tree *Tree, blocks int) {
	t.Helper()
	for _, i := range far(blocks) {
		if got := tree.Idom(i); got != -1 {
			t.Errorf("%s: Idom of %d: %d", what, i, got)
		}
		if got := tree.Depth(i); got != 0 {
			t.Errorf("%s: Depth of %d: %d", what, i, got)
		}
		is(t, what+": Over of "+strconv.Itoa(i), tree.Over(i))
		is(t, what+": Kids of "+strconv.Itoa(i), tree.Kids(i))
		isSet(t, what+": Below of "+strconv.Itoa(i), tree.Below(i), blocks)
		for _, other := range append(far(blocks), count(0, blocks)...) {
			if tree.Is(i, other) || tree.Is(other, i) {
				t.Errorf("%s: %d and %d: one dominates the other one", what, i, other)
			}
		}
	}
}

// TestExample: the chapter's example, with all that it doesn't tell.
func TestExample(t *testing.T) {
	for _, words := range []string{"abc bd cd d", "acb bd cd d"} {
		tree := New(graph.New(letters(words)))
		if got := tree.Idom(3); got != 0 {
			t.Errorf("Idom of d: %d", got)
		}
		like(t, "example", tree, -1, 0, 0, 0)
		likeNone(t, "example", tree, 4)
	}
}

// TestNone: graphs without blocks, a graph that is nil, and a tree that is nil.
func TestNone(t *testing.T) {
	var none *Tree
	behind := letters("ab ba")
	behind.Blocks = behind.Blocks[:0]
	for _, tree := range []*Tree{none, New(nil), New(graph.New(api.Func{})), New(graph.New(function())), New(graph.New(behind))} {
		like(t, "none", tree)
		likeNone(t, "none", tree, 0)
		if tree.Idom(0) != -1 || tree.Depth(0) != 0 || tree.Is(0, 0) {
			t.Error("none: there is a block 0")
		}
		is(t, "none: Over of 0", tree.Over(0))
		is(t, "none: Kids of 0", tree.Kids(0))
		isSet(t, "none: Below of 0", tree.Below(0), 0)
	}
	if New(nil) == nil || New(graph.New(api.Func{})) == nil {
		t.Error("New: nil")
	}
}

// TestIdom: of graphs of each kind the Idom of each block, and all that follows of it.
func TestIdom(t *testing.T) {
	for _, c := range []struct {
		words string
		idom  []int
	}{
		// One block.
		{"a", []int{-1}},
		{"aa", []int{-1}},
		{"aaa", []int{-1}},
		{"ax", []int{-1}},
		// Rows.
		{"ab b", []int{-1, 0}},
		{"ab bc c", []int{-1, 0, 1}},
		{"ab bc cd d", []int{-1, 0, 1, 2}},
		{"ac b cb", []int{-1, 2, 0}},
		{"ad b cb dc", []int{-1, 2, 3, 0}},
		{"ac bd ce d eb", []int{-1, 4, 0, 1, 2}},
		// Blocks part, and don't meet.
		{"abc b c", []int{-1, 0, 0}},
		{"adcb b c d", []int{-1, 0, 0, 0}},
		{"abc bde cfg d e f g", []int{-1, 0, 0, 1, 1, 2, 2}},
		{"agf b c d e fbd gec", []int{-1, 5, 6, 5, 6, 0, 0}},
		// They meet again: on ways as long, on ways of which one is longer, on three.
		{"abc bd cd d", []int{-1, 0, 0, 0}},
		{"abc bd cd de e", []int{-1, 0, 0, 0, 3}},
		{"abc bc c", []int{-1, 0, 0}},
		{"acb bc c", []int{-1, 0, 0}},
		{"abc b cb", []int{-1, 0, 0}},
		{"abd bc cd d", []int{-1, 0, 1, 0}},
		{"adb bc cd d", []int{-1, 0, 1, 0}},
		{"abcd be ce de e", []int{-1, 0, 0, 0, 0}},
		{"abcd be ce d e", []int{-1, 0, 0, 0, 0}},
		{"abc bd cd de ef f", []int{-1, 0, 0, 0, 3, 4}},
		// Again and again.
		{"abc bd cd def eg fg g", []int{-1, 0, 0, 0, 3, 3, 3}},
		{"abc bc cde de efg fg g", []int{-1, 0, 0, 2, 2, 4, 4}},
		{"afe bdc c dc eb fb", []int{-1, 0, 1, 1, 0, 0}},
		// One such within another; within, but meeting outside; crossing.
		{"abg bcd ce de ef fh gh h", []int{-1, 0, 1, 1, 1, 4, 0, 0}},
		{"abf bcd ce dg eg fg g", []int{-1, 0, 1, 1, 2, 0, 0}},
		{"abc bde cde df ef f", []int{-1, 0, 0, 0, 0, 0}},
		{"abc bde cef dg eg fg g", []int{-1, 0, 0, 1, 0, 2, 0}},
		{"ab bcd cef de eg fg g", []int{-1, 0, 1, 1, 1, 2, 1}},
		// Several labels of one block.
		{"abb b", []int{-1, 0}},
		{"abbb bcc cdcd d", []int{-1, 0, 1, 2}},
		{"abbcc bdd cdd d", []int{-1, 0, 0, 0}},
		{"abcb bd c dbb", []int{-1, 0, 0, 1}},
		// Loops of one head: of itself alone, longer, with a way out, with several blocks that go back.
		{"ab bb", []int{-1, 0}},
		{"abc bbc cc", []int{-1, 0, 0}},
		{"ab bc cb", []int{-1, 0, 1}},
		{"ab bcd cb d", []int{-1, 0, 1, 1}},
		{"ab bc cbd d", []int{-1, 0, 1, 2}},
		{"ab bcd cb db", []int{-1, 0, 1, 1}},
		{"ab bc cbd dbe eb", []int{-1, 0, 1, 2, 3}},
		{"ab bcd ceb deb eb", []int{-1, 0, 1, 1, 1}},
		// One within another, two with one head, one behind the other.
		{"ab bc cd dce ebf f", []int{-1, 0, 1, 2, 3, 4}},
		{"ab bc ccd db", []int{-1, 0, 1, 2}},
		{"ab bce cd dcb e", []int{-1, 0, 1, 2, 1}},
		{"ab bcde cb db e", []int{-1, 0, 1, 1, 1}},
		{"ab bcf cde db eb f", []int{-1, 0, 1, 2, 2, 1}},
		{"ab bcd cb de edf f", []int{-1, 0, 1, 1, 3, 4}},
		// Rounds that are entered at two places.
		{"abc bc cb", []int{-1, 0, 0}},
		{"acb bc cb", []int{-1, 0, 0}},
		{"abc bcd cbd d", []int{-1, 0, 0, 0}},
		{"abc bcd cb d", []int{-1, 0, 0, 1}},
		{"abc bd ce de ed", []int{-1, 0, 0, 0, 0}},
		{"ab bcd cd dce e", []int{-1, 0, 1, 1, 3}},
		{"abc bd cef de edf fe", []int{-1, 0, 0, 0, 0, 0}},
		{"acb bd cfe de efd fe", []int{-1, 0, 0, 0, 0, 0}},
		{"abc bcd ceb df ef fde", []int{-1, 0, 0, 0, 0, 0}},
		{"ab bcd cdb dceb e", []int{-1, 0, 1, 1, 3}},
		// Ways back to block 0.
		{"ab ba", []int{-1, 0}},
		{"aab bba", []int{-1, 0}},
		{"ab bca cab", []int{-1, 0, 1}},
		{"abc bad cad da", []int{-1, 0, 0, 0}},
		{"aabc babc cabc", []int{-1, 0, 0}},
	} {
		tree := New(graph.New(letters(c.words)))
		like(t, c.words, tree, c.idom...)
		likeNone(t, c.words, tree, len(c.idom))
	}
}

// TestNotReached: blocks that aren't reached dominate nothing, aren't dominated, and change no answer for those that are reached.
func TestNotReached(t *testing.T) {
	for _, c := range []struct {
		words string
		idom  []int
	}{
		// Alone, in a row, in a round.
		{"a b", []int{-1, -1}},
		{"a b c", []int{-1, -1, -1}},
		{"ac b c", []int{-1, -1, 0}},
		{"ad b c d", []int{-1, -1, -1, 0}},
		{"ab b cd de e", []int{-1, 0, -1, -1, -1}},
		{"ab b cc", []int{-1, 0, -1}},
		{"a bc cb", []int{-1, -1, -1}},
		{"ab b cd de ec", []int{-1, 0, -1, -1, -1}},
		{"abc bd cd d efg fh gh he", []int{-1, 0, 0, 0, -1, -1, -1, -1}},
		// Such as go on with blocks that are reached.
		{"a ba", []int{-1, -1}},
		{"aa ba", []int{-1, -1}},
		{"ab bc c dbc", []int{-1, 0, 1, -1}},
		{"ab bc cd d ebd fdc gfg", []int{-1, 0, 1, 2, -1, -1, -1}},
		{"abc bd cd d ed fbcd", []int{-1, 0, 0, 0, -1, -1}},
		{"ad bfd cbd df ebc f", []int{-1, -1, -1, 0, -1, 3}},
		{"ad bcd cbd de e", []int{-1, -1, -1, 0, 3}},
		{"ac ba cd dc ecd", []int{-1, -1, 0, 2, -1}},
		{"ae bcdefg cb db ef fg ge", []int{-1, -1, -1, -1, 0, 4, 5}},
		{"ac bd cd d", []int{-1, -1, 0, 2}},
		// All but block 0.
		{"a bcd cbd dbc", []int{-1, -1, -1, -1}},
		{"aa babcd cabcd dabcd", []int{-1, -1, -1, -1}},
	} {
		tree := New(graph.New(letters(c.words)))
		like(t, c.words, tree, c.idom...)
		likeNone(t, c.words, tree, len(c.idom))
	}
}

// TestSecondOfLabel: the first block of a label alone is reached by it.
func TestSecondOfLabel(t *testing.T) {
	like(t, "second", New(graph.New(letters("ab bc bd c d"))), -1, 0, -1, 1, -1)
}

// TestIs: which dominate which, written out.
func TestIs(t *testing.T) {
	tree := New(graph.New(letters("abc bd cd def eg fg gb hg")))
	want := []string{
		"abcdefg.",
		".b......",
		"..c.....",
		"...defg.",
		"....e...",
		".....f..",
		"......g.",
		"........",
	}
	for a, row := range want {
		for b := range row {
			if got := tree.Is(a, b); got != (row[b] != '.') {
				t.Errorf("does %d dominate %d: %t", a, b, got)
			}
		}
	}
}

// TestOver: a block itself first, block 0 last, each ahead of its Idom.
func TestOver(t *testing.T) {
	tree := New(graph.New(letters("ah b cb dc ed fe gf hg")))
	is(t, "Over of b", tree.Over(1), 1, 2, 3, 4, 5, 6, 7, 0)
	is(t, "Over of e", tree.Over(4), 4, 5, 6, 7, 0)
	is(t, "Over of h", tree.Over(7), 7, 0)
	is(t, "Over of a", tree.Over(0), 0)
	tree = New(graph.New(letters("ac bfg cde db eb fd g hb")))
	is(t, "Over of g", tree.Over(6), 6, 1, 2, 0)
	is(t, "Over of f", tree.Over(5), 5, 1, 2, 0)
	is(t, "Over of d", tree.Over(3), 3, 2, 0)
	is(t, "Over of h", tree.Over(7))
	for i, want := range []int{1, 3, 2, 3, 3, 4, 4, 0} {
		if got := tree.Depth(i); got != want {
			t.Errorf("Depth of %d: %d, not %d", i, got, want)
		}
	}
}

// TestKids: they rise, whatever the order of the labels and of the ways is.
func TestKids(t *testing.T) {
	for _, words := range []string{"abcdefg b c d e f g", "agfedcb b c d e f g", "acfbgde be cg d eb fac gd", "aefgbcd bcdefg cbdefg dbcefg ebcdfg fbcdeg gbcdef"} {
		tree := New(graph.New(letters(words)))
		is(t, words+": Kids of a", tree.Kids(0), 1, 2, 3, 4, 5, 6)
		for i := 1; i < 7; i++ {
			is(t, words+": Kids", tree.Kids(i))
		}
	}
	tree := New(graph.New(letters("ad bec c dfb e fgb gcd hb")))
	is(t, "Kids of a", tree.Kids(0), 3)
	is(t, "Kids of b", tree.Kids(1), 4)
	is(t, "Kids of d", tree.Kids(3), 1, 2, 5)
	is(t, "Kids of f", tree.Kids(5), 6)
	is(t, "Kids of h", tree.Kids(7))
}

// TestBelow: all that a block dominates, itself too, and its bound, of each block, and of none.
func TestBelow(t *testing.T) {
	tree := New(graph.New(letters("ad bec c dfb e fgb gcd hb")))
	isSet(t, "Below a", tree.Below(0), 8, 0, 1, 2, 3, 4, 5, 6)
	isSet(t, "Below b", tree.Below(1), 8, 1, 4)
	isSet(t, "Below c", tree.Below(2), 8, 2)
	isSet(t, "Below d", tree.Below(3), 8, 1, 2, 3, 4, 5, 6)
	isSet(t, "Below e", tree.Below(4), 8, 4)
	isSet(t, "Below f", tree.Below(5), 8, 5, 6)
	isSet(t, "Below g", tree.Below(6), 8, 6)
	isSet(t, "Below h, which isn't reached", tree.Below(7), 8)
	isSet(t, "Below none", tree.Below(8), 8)
	isSet(t, "Below none", tree.Below(-1), 8)
}

// TestOrders: the orders of labels, in which ways are gone, change nothing.
func TestOrders(t *testing.T) {
	f := letters("abcd bde cef deb efb fdg g")
	for first := range 6 {
		for second := range 2 {
			for third := range 2 {
				for fourth := range 2 {
					turned := slices.Clone(f.Blocks)
					turned[0] = block("a", [][]string{{"b", "c", "d"}, {"b", "d", "c"}, {"c", "b", "d"}, {"c", "d", "b"}, {"d", "b", "c"}, {"d", "c", "b"}}[first]...)
					turned[1] = block("b", [][]string{{"d", "e"}, {"e", "d"}}[second]...)
					turned[3] = block("d", [][]string{{"e", "b"}, {"b", "e"}}[third]...)
					turned[5] = block("f", [][]string{{"d", "g"}, {"g", "d"}}[fourth]...)
					like(t, "orders", New(graph.New(function(turned...))), -1, 0, 0, 0, 0, 0, 5)
				}
			}
		}
	}
}

// flat is the Idoms of so many blocks, if block 0 is that of each other one.
func flat(many int) []int {
	return append([]int{-1}, make([]int, many-1)...)
}

// TestRow: some hundred blocks in a row, one way and the other, round, and with ways past it.
func TestRow(t *testing.T) {
	const many = 500
	straight := append([]int{-1}, count(0, many-1)...)
	like(t, "row", New(graph.New(joins(many, func(i int) []int { return []int{i + 1} }))), straight...)
	turned := append([]int{-1}, append(count(2, many), 0)...)
	like(t, "turned row", New(graph.New(joins(many, func(i int) []int { return []int{(i + many - 1) % many} }))), turned...)
	like(t, "ring", New(graph.New(joins(many, func(i int) []int { return []int{(i + 1) % many} }))), straight...)
	like(t, "back to each", New(graph.New(joins(many, func(i int) []int { return append(count(0, i+1), i+1) }))), straight...)
	like(t, "back to each, first", New(graph.New(joins(many, func(i int) []int { return append([]int{i + 1}, back(count(0, i+1))...) }))), straight...)
	like(t, "past one", New(graph.New(joins(many, func(i int) []int { return []int{i + 1, i + 2} }))), flat(many)...)
	like(t, "past one, first", New(graph.New(joins(many, func(i int) []int { return []int{i + 2, i + 1} }))), flat(many)...)
	out := append(slices.Clone(straight[:many-1]), 0)
	like(t, "out of each", New(graph.New(joins(many, func(i int) []int { return []int{i + 1, many - 1} }))), out...)
	like(t, "out of each, first", New(graph.New(joins(many, func(i int) []int { return []int{many - 1, i + 1} }))), out...)
}

// TestLadder: so many ways meet again and again that nobody could go each of them.
func TestLadder(t *testing.T) {
	const rungs = 200
	ladder := joins(3*rungs, func(i int) []int {
		if i%3 == 0 {
			return []int{i + 1, i + 2}
		}
		return []int{i + 3 - i%3}
	})
	var idom []int
	for i := range rungs {
		idom = append(idom, 3*i-3, 3*i, 3*i)
	}
	idom[0] = -1
	like(t, "ladder", New(graph.New(ladder)), idom...)

	// Of two rails: each block goes on with the next one of its own, and with the one beside it.
	rails := joins(2*rungs, func(i int) []int { return []int{i + 2, i ^ 1} })
	like(t, "rails", New(graph.New(rails)), flat(2*rungs)...)
	rails = joins(2*rungs, func(i int) []int { return []int{i ^ 1, i - 2, i + 2} })
	like(t, "rails, up and down", New(graph.New(rails)), flat(2*rungs)...)
	// One rail goes up, the other one goes down: whoever comes down to a block may have changed rails at each rung further up.
	rails = joins(2*rungs, func(i int) []int {
		if i%2 == 0 {
			return []int{i + 1, i + 2}
		}
		return []int{i - 2}
	})
	idom = nil
	for i := range rungs {
		idom = append(idom, 2*i-2, 2*i)
	}
	idom[0] = -1
	like(t, "up and down again", New(graph.New(rails)), idom...)
}

// TestNested: one loop within another, some hundred times.
func TestNested(t *testing.T) {
	const deep = 250
	nested := joins(2*deep, func(i int) []int {
		if i < deep {
			return []int{i + 1}
		}
		return []int{2*deep - 1 - i, i + 1}
	})
	like(t, "nested", New(graph.New(nested)), append([]int{-1}, count(0, 2*deep-1)...)...)
}

// TestAllToAll: each block goes on with all of them.
func TestAllToAll(t *testing.T) {
	const many = 200
	like(t, "all to all", New(graph.New(joins(many, func(int) []int { return count(0, many) }))), flat(many)...)
	like(t, "all to all, the last first", New(graph.New(joins(many, func(int) []int { return back(count(0, many)) }))), flat(many)...)
	like(t, "all to all others behind them", New(graph.New(joins(many, func(i int) []int { return count(i+1, many) }))), flat(many)...)
	idom := append([]int{-1}, slices.Repeat([]int{many - 1}, many-2)...)
	like(t, "all to all behind the last one", New(graph.New(joins(many, func(i int) []int {
		if i == 0 {
			return []int{many - 1}
		}
		return count(0, many)
	}))), append(idom, 0)...)
}

// answers is all that a tree answers.
func answers(tree *Tree, blocks int) []any {
	var all []any
	for i := -1; i <= blocks; i++ {
		all = append(all, tree.Idom(i), tree.Depth(i), tree.Over(i), tree.Kids(i), tree.Below(i).Bound(), tree.Below(i).List())
		for b := -1; b <= blocks; b++ {
			all = append(all, tree.Is(i, b))
		}
	}
	return all
}

// told is all that a graph answers.
func told(g *graph.Graph) []any {
	all := []any{g.Len(), g.Edges(), g.Order(), g.Reached().List()}
	for i := -1; i <= g.Len(); i++ {
		all = append(all, g.Succ(i), g.Pred(i))
		for without := -1; without <= g.Len(); without++ {
			all = append(all, g.Away(i, without).List())
		}
	}
	return all
}

// some are words of graphs of different kinds.
func some() []string {
	return []string{"a", "ab bc cd d", "acb bd cd d", "abb bac cb db", "abc bcd cb de ed fe", "adbc bce cb da e fg gfa", "ad bec c dfb e fgb gcd hb"}
}

// TestGiven: what is handed in isn't changed.
func TestGiven(t *testing.T) {
	for _, words := range some() {
		g := graph.New(letters(words))
		want := told(g)
		tree := New(g)
		answers(tree, g.Len())
		if !reflect.DeepEqual(told(g), want) {
			t.Errorf("%s: the graph was changed", words)
		}
	}
}

// TestTwoTrees: two trees, of one graph or of two, know nothing of each other.
func TestTwoTrees(t *testing.T) {
	g := graph.New(letters("acb bd cd d"))
	one, two, other := New(g), New(g), New(graph.New(letters("ab bc cd d e")))
	like(t, "one", one, -1, 0, 0, 0)
	spoil(one.Kids(0), 3)
	spoil(one.Over(3), 1)
	like(t, "two", two, -1, 0, 0, 0)
	like(t, "other", other, -1, 0, 1, 2, -1)
	like(t, "one", one, -1, 0, 0, 0)
}

// spoil changes all of a list, and what lies behind it.
func spoil(list []int, with int) {
	list = list[:cap(list)]
	for i := range list {
		list[i] = with
	}
}

// TestOwn: what is answered can be changed, and what is asked next is as before.
func TestOwn(t *testing.T) {
	for _, words := range some() {
		g := graph.New(letters(words))
		tree := New(g)
		want := answers(tree, g.Len())
		for i := -1; i <= g.Len(); i++ {
			over, kids := tree.Over(i), tree.Kids(i)
			_, _ = append(over, 5), append(kids, 6)
			spoil(over, 77)
			spoil(kids, 78)
			tree.Below(i).Or(bits.Full(g.Len()))
			if !reflect.DeepEqual(answers(tree, g.Len()), want) {
				t.Errorf("%s: a change of what was told of %d changed an answer", words, i)
			}
			tree.Below(i).Minus(bits.Full(g.Len()))
			if !reflect.DeepEqual(answers(tree, g.Len()), want) {
				t.Errorf("%s: a change of what was told of %d changed an answer", words, i)
			}
		}
	}
}

// TestApart: no two lists, and no two sets, of two answers share memory, so that a change of one of them doesn't show in the other.
func TestApart(t *testing.T) {
	for _, words := range some() {
		g := graph.New(letters(words))
		tree := New(g)
		var lists, kept [][]int
		var sets []*bits.Set
		for i := -1; i <= g.Len(); i++ {
			for range 2 {
				lists = append(lists, tree.Over(i), tree.Kids(i))
				sets = append(sets, tree.Below(i))
			}
		}
		for _, list := range lists {
			kept = append(kept, slices.Clone(list))
		}
		for i, list := range lists {
			spoil(list, 77)
			for other := i + 1; other < len(lists); other++ {
				is(t, words+": another list", lists[other], kept[other]...)
			}
		}
		full := bits.Full(g.Len())
		for i, set := range sets {
			for _, other := range sets[i+1:] {
				want := other.List()
				set.Or(full)
				is(t, words+": another set", other.List(), want...)
				set.Minus(full)
				is(t, words+": another set", other.List(), want...)
			}
		}
	}
}
