package dom

import (
	"slices"
	"strconv"
	"testing"

	"dyehouse/api"
	"dyehouse/bits"
	"dyehouse/graph"
)

// source makes numbers that look as if they came by chance, and always the same ones.
type source struct {
	state uint64
}

// below is a number from 0 to below a bound.
func (s *source) below(bound int) int {
	s.state += 0x9e3779b97f4a7c15
	z := s.state
	z = (z ^ z>>30) * 0xbf58476d1ce4e5b9
	z = (z ^ z>>27) * 0x94d049bb133111eb
	return int((z ^ z>>31) % uint64(bound))
}

// shuffled is the numbers from one on, below another one, in any order.
func (s *source) shuffled(from, to int) []int {
	list := count(from, to)
	for i := range list {
		other := i + s.below(len(list)-i)
		list[i], list[other] = list[other], list[i]
	}
	return list
}

// near is a list of with which blocks each goes on: mostly with such as are near, so that ways part and meet and go back again and again.
func (s *source) near(blocks, most int) [][]int {
	next := make([][]int, blocks)
	for i := range next {
		if s.below(6) > 0 {
			next[i] = append(next[i], i+1)
		}
		for range s.below(most + 1) {
			next[i] = append(next[i], i+s.below(8)-3)
		}
	}
	return next
}

// wide is such a list, each with any ones.
func (s *source) wide(blocks, most int) [][]int {
	next := make([][]int, blocks)
	for i := range next {
		for range s.below(most + 1) {
			next[i] = append(next[i], s.below(blocks))
		}
	}
	return next
}

// nested is such a list, of choices and loops within each other: a part of the blocks is entered at its first one, and left at its last one.
func (s *source) nested(blocks int) [][]int {
	next := make([][]int, blocks)
	var lay func(from, to int)
	lay = func(from, to int) {
		if to-from < 2 {
			return
		}
		if to-from < 4 {
			for i := from; i < to-1; i++ {
				next[i] = append(next[i], i+1)
			}
			return
		}
		cut := from + 2 + s.below(to-from-3)
		switch s.below(3) {
		case 0: // one behind the other
			next[cut-1] = append(next[cut-1], cut)
			lay(from, cut)
			lay(cut, to)
			return
		case 1: // one or the other
			next[from] = append(next[from], from+1, cut)
			next[cut-1] = append(next[cut-1], to-1)
			if cut < to-1 {
				next[to-2] = append(next[to-2], to-1)
			}
		case 2: // again and again
			next[from] = append(next[from], from+1, cut)
			next[cut-1] = append(next[cut-1], from)
			if cut < to-1 {
				next[to-2] = append(next[to-2], to-1)
			}
		}
		lay(from+1, cut)
		lay(cut, to-1)
	}
	lay(0, blocks)
	return next
}

// list is one of these lists; some of them have blocks renumbered.
func (s *source) list(blocks int) [][]int {
	var next [][]int
	switch s.below(4) {
	case 0:
		next = s.wide(blocks, 1+s.below(4))
	case 1:
		next = s.nested(blocks)
	default:
		next = s.near(blocks, 1+s.below(3))
	}
	if blocks > 0 && s.below(2) == 0 {
		next = renumbered(next, append([]int{0}, s.shuffled(1, blocks)...))
	}
	return next
}

// renumbered is the same blocks by other numbers.
func renumbered(next [][]int, numbers []int) [][]int {
	turned := make([][]int, len(next))
	for i, all := range next {
		for _, to := range all {
			if 0 <= to && to < len(next) {
				turned[numbers[i]] = append(turned[numbers[i]], numbers[to])
			}
		}
	}
	return turned
}

// made is a graph of such a list.
func made(next [][]int) *graph.Graph {
	return graph.New(joins(len(next), func(i int) []int { return next[i] }))
}

// past is the blocks that are reached from block 0 without going through one: a plain search, by a function that calls itself.
func past(g *graph.Graph, without int) []int {
	in := make([]int, g.Len())
	var enter func(i int)
	enter = func(i int) {
		if i == without || in[i] == 1 {
			return
		}
		in[i] = 1
		for _, next := range g.Succ(i) {
			enter(next)
		}
	}
	if g.Len() > 0 {
		enter(0)
	}
	return in
}

// bySearch is, for each block, which ones it dominates: those that are reached, but not without it.
func bySearch(g *graph.Graph) [][]int {
	all := make([][]int, g.Len())
	reached := past(g, -1)
	for a := range all {
		around := past(g, a)
		for b := range all {
			if reached[b] == 1 && around[b] == 0 {
				all[a] = append(all[a], b)
			}
		}
	}
	return all
}

// byWays is that, by all ways that there are from block 0 on that go through no block twice: those that do go through no fewer.
func byWays(g *graph.Graph) [][]int {
	many, through := make([]int, g.Len()), make([][]int, g.Len())
	for a := range through {
		through[a] = make([]int, g.Len())
	}
	var walk func(way []int)
	walk = func(way []int) {
		end := way[len(way)-1]
		many[end]++
		for _, a := range way {
			through[a][end]++
		}
		for _, next := range g.Succ(end) {
			if !slices.Contains(way, next) {
				walk(append(slices.Clone(way), next))
			}
		}
	}
	if g.Len() > 0 {
		walk([]int{0})
	}
	all := make([][]int, g.Len())
	for a := range all {
		for b := range all {
			if many[b] > 0 && through[a][b] == many[b] {
				all[a] = append(all[a], b)
			}
		}
	}
	return all
}

// byAway is that, by which blocks reach others without it.
func byAway(g *graph.Graph) [][]int {
	all := make([][]int, g.Len())
	reached := g.Reached()
	for a := range all {
		for b := range all {
			if reached.Has(b) && !g.Away(b, a).Has(0) {
				all[a] = append(all[a], b)
			}
		}
	}
	return all
}

// turned is, for each block, which ones dominate it, rising.
func turned(dominates [][]int) [][]int {
	over := make([][]int, len(dominates))
	for a, all := range dominates {
		for _, b := range all {
			over[b] = append(over[b], a)
		}
	}
	return over
}

// idoms is each block's Idom, as the chapter says it: of those that dominate it, but itself, the one that all others of these dominate.
func idoms(dominates [][]int) []int {
	idom := slices.Repeat([]int{-1}, len(dominates))
	over := turned(dominates)
	for i, all := range over {
		for _, a := range all {
			above := slices.DeleteFunc(slices.Clone(all), func(b int) bool { return b == i || slices.Contains(over[a], b) })
			if a != i && len(above) == 0 {
				idom[i] = a
			}
		}
	}
	return idom
}

// likeModel asks a graph's tree all, of each block and of each pair, and holds it against which blocks each dominates.
func likeModel(t *testing.T, g *graph.Graph, dominates [][]int) {
	t.Helper()
	tree := New(g)
	like(t, "made", tree, idoms(dominates)...)
	for a, all := range dominates {
		for b := range dominates {
			if got := tree.Is(a, b); got != slices.Contains(all, b) {
				t.Errorf("does %d dominate %d: %t", a, b, got)
			}
		}
		isSet(t, "Below of "+strconv.Itoa(a), tree.Below(a), len(dominates), all...)
	}
	for b, all := range turned(dominates) {
		over := tree.Over(b)
		slices.Sort(over)
		is(t, "Over of "+strconv.Itoa(b)+", sorted", over, all...)
		if got := tree.Depth(b); got != len(all) {
			t.Errorf("Depth of %d: %d, not %d", b, got, len(all))
		}
	}
}

// choices are all lists of some of these labels, each once, in each order.
func choices(labels ...string) [][]string {
	all := [][]string{nil}
	for at := 0; at < len(all); at++ {
		for _, label := range labels {
			if !slices.Contains(all[at], label) {
				all = append(all, append(slices.Clone(all[at]), label))
			}
		}
	}
	return all
}

// TestAllSmall: all functions of up to three blocks.
func TestAllSmall(t *testing.T) {
	for many := range 4 {
		labels := []string{"a", "b", "c"}[:many]
		var lay func(blocks []api.Block)
		lay = func(blocks []api.Block) {
			if len(blocks) < many {
				for _, next := range choices(labels...) {
					lay(append(slices.Clone(blocks), block(labels[len(blocks)], next...)))
				}
				return
			}
			g := graph.New(function(blocks...))
			likeModel(t, g, byWays(g))
			likeModel(t, g, byAway(g))
			likeNone(t, "small", New(g), many)
		}
		lay(nil)
		if t.Failed() {
			return
		}
	}
}

// TestAllFour: all graphs of four blocks, whatever the order of labels.
func TestAllFour(t *testing.T) {
	for all := range 1 << 16 {
		g := made([][]int{ones(all & 15), ones(all >> 4 & 15), ones(all >> 8 & 15), ones(all >> 12)})
		likeModel(t, g, bySearch(g))
		if t.Failed() {
			t.Fatalf("%b", all)
		}
	}
}

// ones is the places of a number's bits.
func ones(number int) []int {
	var list []int
	for i := range 4 {
		if number>>i&1 == 1 {
			list = append(list, i)
		}
	}
	return list
}

// TestSmallWays: small functions, held against all ways that there are.
func TestSmallWays(t *testing.T) {
	s := &source{state: 20}
	for range 6000 {
		next := s.list(s.below(9))
		g := made(next)
		likeModel(t, g, byWays(g))
		if t.Failed() {
			t.Fatal(next)
		}
	}
}

// TestMany: functions of up to 80 blocks, held against plain searches.
func TestMany(t *testing.T) {
	s := &source{state: 80}
	for range 1200 {
		next := s.list(s.below(81))
		g := made(next)
		likeModel(t, g, bySearch(g))
		if t.Failed() {
			t.Fatal(next)
		}
	}
}

// TestAway: one dominates another one that is reached, just if that isn't reached any more where the one is left out.
func TestAway(t *testing.T) {
	s := &source{state: 19}
	for _, many := range []int{0, 1, 2, 3, 8, 20, 63, 64, 65, 80} {
		for range 12 {
			next := s.list(many)
			g := made(next)
			likeModel(t, g, byAway(g))
			if t.Failed() {
				t.Fatal(next)
			}
		}
	}
}

// TestRenumbered: the same blocks by other numbers have the same tree, by these.
func TestRenumbered(t *testing.T) {
	s := &source{state: 7}
	for range 300 {
		next := s.list(1 + s.below(60))
		tree := New(made(next))
		numbers := append([]int{0}, s.shuffled(1, len(next))...)
		idom := make([]int, len(next))
		for i, number := range numbers {
			idom[number] = -1
			if over := tree.Idom(i); over >= 0 {
				idom[number] = numbers[over]
			}
		}
		like(t, "renumbered", New(made(renumbered(next, numbers))), idom...)
		if t.Failed() {
			t.Fatal(next, numbers)
		}
	}
}

// TestMoreNotReached: further blocks that aren't reached, wherever they go on, change no answer for the other ones.
func TestMoreNotReached(t *testing.T) {
	s := &source{state: 9}
	for range 300 {
		// All labels are of blocks that there are: none may become one of the further blocks.
		next := s.list(1 + s.below(40))
		next = renumbered(next, count(0, len(next)))
		tree := New(made(next))
		var idom []int
		for i := range next {
			idom = append(idom, tree.Idom(i))
		}
		many := len(next) + 1 + s.below(20)
		for range many - len(next) {
			idom = append(idom, -1)
			next = append(next, nil)
			for range s.below(6) {
				next[len(next)-1] = append(next[len(next)-1], s.below(many))
			}
		}
		like(t, "more", New(made(next)), idom...)
		if t.Failed() {
			t.Fatal(next)
		}
	}
}

// TestMade: of the graphs that are made some blocks are reached and some aren't; many have an Idom that doesn't go on with them; and rounds are entered at two places.
func TestMade(t *testing.T) {
	s := &source{state: 80}
	reached, all, far, deep, rounds := 0, 0, 0, 0, 0
	for range 300 {
		g := made(s.list(40))
		tree := New(g)
		order := g.Order()
		reached, all = reached+len(order), all+g.Len()
		for _, i := range order {
			deep = max(deep, tree.Depth(i))
			if i > 0 && !slices.Contains(g.Pred(i), tree.Idom(i)) {
				far++
			}
		}
		for at, i := range order {
			for _, to := range g.Succ(i) {
				if slices.Contains(order[:at], to) && !tree.Is(to, i) {
					rounds++
				}
			}
		}
	}
	if reached < all/5 || reached > all*9/10 || far < 200 || deep < 20 || rounds < 300 {
		t.Errorf("%d of %d reached, %d Idoms far away, at most %d deep, %d rounds entered beside their heads", reached, all, far, deep, rounds)
	}
}

// TestKidsOnce: each block that is reached is a kid of one alone, but for block 0, which is none's.
func TestKidsOnce(t *testing.T) {
	s := &source{state: 33}
	for range 200 {
		next := s.list(s.below(60))
		g := made(next)
		tree := New(g)
		under := bits.New(g.Len())
		many := 0
		for i := range next {
			for _, kid := range tree.Kids(i) {
				under.Add(kid)
				many++
			}
		}
		if len(next) > 0 {
			under.Add(0)
			many++
		}
		if !under.Same(g.Reached()) || many != under.Count() {
			t.Fatal(next)
		}
	}
}
