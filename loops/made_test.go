package loops

import (
	"slices"
	"testing"

	"dyehouse/api"
	"dyehouse/bits"
	"dyehouse/dom"
	"dyehouse/graph"
)

// source makes numbers that look as if they came by chance, and always the same ones.
type source struct {
	state uint64
}

// below is a number from 0 to below a bound.
func (s *source) below(bound int) int {
	s.state += 0x9e3779b97f4a7c15
	z := s.state
	z = (z ^ z>>30) * 0xbf58476d1ce4e5b9
	z = (z ^ z>>27) * 0x94d049bb133111eb
	return int((z ^ z>>31) % uint64(bound))
}

// shuffled is the numbers from one on, below another one, in any order.
func (s *source) shuffled(from, to int) []int {
	list := count(from, to)
	for i := range list {
		other := i + s.below(len(list)-i)
		list[i], list[other] = list[other], list[i]
	}
	return list
}

// near is a list of with which blocks each goes on: mostly with such as are near, so that ways part and meet and go back again and again.
func (s *source) near(blocks, most int) [][]int {
	next := make([][]int, blocks)
	for i := range next {
		if s.below(6) > 0 {
			next[i] = append(next[i], i+1)
		}
		for range s.below(most + 1) {
			next[i] = append(next[i], i+s.below(8)-3)
		}
	}
	return next
}

// wide is such a list, each with any ones.
func (s *source) wide(blocks, most int) [][]int {
	next := make([][]int, blocks)
	for i := range next {
		for range s.below(most + 1) {
			next[i] = append(next[i], s.below(blocks))
		}
	}
	return next
}

// nested is such a list, of choices and loops within each other: a part of the blocks is entered at its first one, and left at its last one.
func (s *source) nested(blocks int) [][]int {
	next := make([][]int, blocks)
	var lay func(from, to int)
	lay = func(from, to int) {
		if to-from < 4 {
			for i := from; i < to-1; i++ {
				next[i] = append(next[i], i+1)
			}
			return
		}
		cut := from + 2 + s.below(to-from-3)
		switch s.below(4) {
		case 0: // one behind the other
			next[cut-1] = append(next[cut-1], cut)
			lay(from, cut)
			lay(cut, to)
		case 1: // one or the other
			next[from] = append(next[from], from+1, cut)
			next[cut-1] = append(next[cut-1], to-1)
			lay(from+1, cut)
			lay(cut, to)
		case 2: // again and again, left at the head, with two tails, which may be one
			next[from] = append(next[from], from+1, cut)
			next[cut-1] = append(next[cut-1], from)
			tail := from + 1 + s.below(cut-from-1)
			next[tail] = append(next[tail], from)
			lay(from+1, cut)
			lay(cut, to)
		case 3: // again and again, left at the tail
			next[from] = append(next[from], from+1)
			next[cut-1] = append(next[cut-1], from, cut)
			lay(from+1, cut)
			lay(cut, to)
		}
	}
	lay(0, blocks)
	// Some further ways back, which may be to heads that there are already, some forth, which may be into rounds, and some
	// blocks that nobody goes on with any more.
	for range s.below(blocks/8 + 1) {
		i := s.below(blocks)
		next[i] = append(next[i], s.below(i+1))
	}
	for range s.below(blocks/16 + 1) {
		i := s.below(blocks)
		next[i] = append(next[i], s.below(blocks))
	}
	for range s.below(3) {
		next = leftOut(next, 1+s.below(blocks))
	}
	return next
}

// leftOut is such a list in which nobody goes on with one any more.
func leftOut(next [][]int, one int) [][]int {
	left := make([][]int, len(next))
	for i, all := range next {
		left[i] = slices.DeleteFunc(slices.Clone(all), func(to int) bool { return to == one })
	}
	return left
}

// list is one of these lists; some of them have blocks renumbered.
func (s *source) list(blocks int) [][]int {
	var next [][]int
	switch s.below(4) {
	case 0:
		next = s.wide(blocks, 1+s.below(4))
	case 1:
		next = s.near(blocks, 1+s.below(3))
	default:
		next = s.nested(blocks)
	}
	if blocks > 0 && s.below(2) == 0 {
		next = renumbered(next, append([]int{0}, s.shuffled(1, blocks)...))
	}
	return next
}

// renumbered is the same blocks by other numbers.
func renumbered(next [][]int, numbers []int) [][]int {
	turned := make([][]int, len(next))
	for i, all := range next {
		for _, to := range all {
			if 0 <= to && to < len(next) {
				turned[numbers[i]] = append(turned[numbers[i]], numbers[to])
			}
		}
	}
	return turned
}

// made is a graph of such a list.
func made(next [][]int) *graph.Graph {
	return graph.New(joins(len(next), func(i int) []int { return next[i] }))
}

// past is the blocks that are reached from one without going through another one: a plain search, by a function that calls itself.
func past(g *graph.Graph, from, without int) []int {
	in := make([]int, g.Len())
	var enter func(i int)
	enter = func(i int) {
		if i == without || in[i] == 1 {
			return
		}
		in[i] = 1
		for _, next := range g.Succ(i) {
			enter(next)
		}
	}
	if from < g.Len() {
		enter(from)
	}
	return in
}

// bodiesOf is the blocks of each loop, as the chapter says it: which blocks are reached, which one dominates which, and from which one is reached without another one, is asked for.
func bodiesOf(g *graph.Graph, reached func(i int) bool, dominates func(a, b int) bool, leads func(from, to, without int) bool) [][]int {
	bodies := make([][]int, g.Len())
	for head := range bodies {
		var tails []int
		for tail := range bodies {
			if slices.Contains(g.Succ(tail), head) && dominates(head, tail) {
				tails = append(tails, tail)
			}
		}
		for i := range bodies {
			in := slices.ContainsFunc(tails, func(tail int) bool { return i == head || reached(i) && leads(i, tail, head) })
			if in {
				bodies[head] = append(bodies[head], i)
			}
		}
	}
	return bodies
}

// bySearch is the blocks of each loop, by plain searches alone.
func bySearch(g *graph.Graph) [][]int {
	reached := past(g, 0, -1)
	around, from := make([][]int, g.Len()), make([][][]int, g.Len())
	for i := range around {
		around[i] = past(g, 0, i)
		from[i] = make([][]int, g.Len())
	}
	return bodiesOf(g,
		func(i int) bool { return reached[i] == 1 },
		func(a, b int) bool { return reached[b] == 1 && around[a][b] == 0 },
		func(i, to, without int) bool {
			if from[i][without] == nil {
				from[i][without] = past(g, i, without)
			}
			return from[i][without][to] == 1
		})
}

// byAway is that, by the layers below.
func byAway(g *graph.Graph) [][]int {
	tree, reached := dom.New(g), g.Reached()
	return bodiesOf(g, reached.Has, tree.Is, func(i, to, without int) bool { return g.Away(to, without).Has(i) })
}

// ways hands on all ways from a block on that go through no block twice.
func ways(g *graph.Graph, from int, yield func(way []int)) {
	var walk func(way []int)
	walk = func(way []int) {
		yield(way)
		for _, next := range g.Succ(way[len(way)-1]) {
			if !slices.Contains(way, next) {
				walk(append(slices.Clone(way), next))
			}
		}
	}
	walk([]int{from})
}

// byWays is that, by all ways that there are from each block on; those that go through a block twice go through no fewer.
func byWays(g *graph.Graph) [][]int {
	all := make([][][]int, g.Len())
	for i := range all {
		ways(g, i, func(way []int) { all[i] = append(all[i], way) })
	}
	to := func(from, to int) [][]int {
		return slices.DeleteFunc(slices.Clone(all[from]), func(way []int) bool { return way[len(way)-1] != to })
	}
	return bodiesOf(g,
		func(i int) bool { return len(to(0, i)) > 0 },
		func(a, b int) bool {
			there := to(0, b)
			return len(there) > 0 && !slices.ContainsFunc(there, func(way []int) bool { return !slices.Contains(way, a) })
		},
		func(from, end, without int) bool {
			return slices.ContainsFunc(to(from, end), func(way []int) bool { return !slices.Contains(way, without) })
		})
}

// follows asks whether of each two loops that have a block in common one has all of the other one, and more than that, and its head.
func follows(t *testing.T, l *Loops) {
	t.Helper()
	heads := l.Heads()
	for at, a := range heads {
		for _, b := range heads[:at] {
			one, other := l.Body(a), l.Body(b)
			if one.Count() < other.Count() {
				one, other = other, one
			}
			both := one.Copy()
			both.And(other)
			if both.Count() > 0 && (!both.Same(other) || one.Same(other) || !one.Has(a) || !one.Has(b)) {
				t.Errorf("loops of %d and of %d: %v and %v", a, b, one.List(), other.List())
			}
		}
	}
}

// within asks of each block whether Depth and Inner are as they follow of the Bodies.
func within(t *testing.T, l *Loops) {
	t.Helper()
	for i := range l.Len() {
		var around []int
		for _, head := range l.Heads() {
			if l.Body(head).Has(i) {
				around = append(around, head)
			}
		}
		inner := -1
		for _, head := range around {
			if inner < 0 || l.Body(head).Count() <= l.Body(inner).Count() {
				inner = head
			}
		}
		if l.Depth(i) != len(around) || l.Inner(i) != inner {
			t.Errorf("%d, which the loops of %v have: Depth %d, Inner %d", i, around, l.Depth(i), l.Inner(i))
		}
	}
}

// likeModel asks a graph's loops all, and holds it against the blocks of each loop.
func likeModel(t *testing.T, g *graph.Graph, bodies [][]int) {
	t.Helper()
	l := New(g)
	like(t, "made", l, bodies...)
	follows(t, l)
	within(t, l)
}

// choices are all lists of some of these labels, each once, in each order.
func choices(labels ...string) [][]string {
	all := [][]string{nil}
	for at := 0; at < len(all); at++ {
		for _, label := range labels {
			if !slices.Contains(all[at], label) {
				all = append(all, append(slices.Clone(all[at]), label))
			}
		}
	}
	return all
}

// TestAllSmall: all functions of up to three blocks.
func TestAllSmall(t *testing.T) {
	for many := range 4 {
		labels := []string{"a", "b", "c"}[:many]
		var lay func(blocks []api.Block)
		lay = func(blocks []api.Block) {
			if len(blocks) < many {
				for _, next := range choices(labels...) {
					lay(append(slices.Clone(blocks), block(labels[len(blocks)], next...)))
				}
				return
			}
			g := graph.New(function(blocks...))
			likeModel(t, g, byWays(g))
			likeModel(t, g, byAway(g))
			likeModel(t, g, bySearch(g))
			likeNone(t, "small", New(g), many)
		}
		lay(nil)
		if t.Failed() {
			return
		}
	}
}

// TestAllFour: all graphs of four blocks, whatever the order of labels.
func TestAllFour(t *testing.T) {
	for all := range 1 << 16 {
		g := made([][]int{ones(all & 15), ones(all >> 4 & 15), ones(all >> 8 & 15), ones(all >> 12)})
		like(t, "of four", New(g), bySearch(g)...)
		if t.Failed() {
			t.Fatalf("%b", all)
		}
	}
}

// ones is the places of a number's bits.
func ones(number int) []int {
	var list []int
	for i := range 4 {
		if number>>i&1 == 1 {
			list = append(list, i)
		}
	}
	return list
}

// TestSmallWays: small functions, held against all ways that there are.
func TestSmallWays(t *testing.T) {
	s := &source{state: 21}
	for range 3000 {
		next := s.list(1 + s.below(8))
		g := made(next)
		likeModel(t, g, byWays(g))
		if t.Failed() {
			t.Fatal(next)
		}
	}
}

// TestMany: functions of up to 64 blocks, held against plain searches.
func TestMany(t *testing.T) {
	s := &source{state: 64}
	for range 700 {
		next := s.list(1 + s.below(64))
		g := made(next)
		likeModel(t, g, bySearch(g))
		if t.Failed() {
			t.Fatal(next)
		}
	}
}

// TestAway: a loop has just what leads to a tail without the head, as layer 19 says it.
func TestAway(t *testing.T) {
	s := &source{state: 19}
	for _, many := range []int{1, 2, 3, 8, 20, 40, 63, 64, 65} {
		for range 12 {
			next := s.list(many)
			g := made(next)
			likeModel(t, g, byAway(g))
			if t.Failed() {
				t.Fatal(next)
			}
		}
	}
}

// TestOrders: the orders of labels, in which ways are gone, change nothing.
func TestOrders(t *testing.T) {
	s := &source{state: 5}
	for range 300 {
		next := s.list(1 + s.below(40))
		want := answers(New(made(next)))
		for i, all := range next {
			var turned []int
			for _, at := range s.shuffled(0, len(all)) {
				turned = append(turned, all[at])
			}
			next[i] = turned
		}
		if got := answers(New(made(next))); !slices.EqualFunc(got, want, alike) {
			t.Fatal(next, got, want)
		}
	}
}

// alike tells whether two answers are the same.
func alike(a, b any) bool {
	list, ok := a.([]int)
	if !ok {
		return a == b
	}
	other, ok := b.([]int)
	return ok && slices.Equal(list, other)
}

// TestRenumbered: the same blocks by other numbers have the same loops, by these.
func TestRenumbered(t *testing.T) {
	s := &source{state: 7}
	for range 300 {
		next := s.list(1 + s.below(60))
		l := New(made(next))
		numbers := append([]int{0}, s.shuffled(1, len(next))...)
		bodies := make([][]int, len(next))
		for _, head := range l.Heads() {
			for i := range l.Body(head).All() {
				bodies[numbers[head]] = append(bodies[numbers[head]], numbers[i])
			}
			slices.Sort(bodies[numbers[head]])
		}
		like(t, "renumbered", New(made(renumbered(next, numbers))), bodies...)
		if t.Failed() {
			t.Fatal(next, numbers)
		}
	}
}

// TestMoreNotReached: further blocks that aren't reached, wherever they go on, change no answer for the other ones, and are in no loop.
func TestMoreNotReached(t *testing.T) {
	s := &source{state: 9}
	for range 300 {
		// All labels are of blocks that there are: none may become one of the further blocks.
		next := s.list(1 + s.below(40))
		next = renumbered(next, count(0, len(next)))
		l := New(made(next))
		var bodies [][]int
		for i := range next {
			bodies = append(bodies, l.Body(i).List())
		}
		many := len(next) + 1 + s.below(20)
		for range many - len(next) {
			bodies = append(bodies, nil)
			next = append(next, nil)
			for range s.below(6) {
				next[len(next)-1] = append(next[len(next)-1], s.below(many))
			}
		}
		like(t, "more", New(made(next)), bodies...)
		if t.Failed() {
			t.Fatal(next)
		}
	}
}

// TestMade: the graphs that are made have loops, in each other and of several tails, blocks that aren't reached but from which tails are, and rounds that are entered at two places.
func TestMade(t *testing.T) {
	s := &source{state: 64}
	heads, deep, tails, outside, rounds := 0, 0, 0, 0, 0
	for range 300 {
		g := made(s.list(40))
		l, tree := New(g), dom.New(g)
		heads += len(l.Heads())
		order, reached := g.Order(), g.Reached()
		into := bits.New(g.Len())
		for at, i := range order {
			deep = max(deep, l.Depth(i))
			back := slices.DeleteFunc(g.Pred(i), func(from int) bool { return !tree.Is(i, from) })
			if len(back) > 1 {
				tails++
			}
			for _, tail := range back {
				into.Or(g.Away(tail, i))
			}
			for _, to := range g.Succ(i) {
				if slices.Contains(order[:at], to) && !tree.Is(to, i) {
					rounds++
				}
			}
		}
		into.Minus(reached)
		outside += into.Count()
	}
	if heads < 1000 || deep < 6 || tails < 200 || outside < 300 || rounds < 300 {
		t.Errorf("%d heads, at most %d deep, %d of several tails, %d not reached that lead to a tail, %d rounds entered beside their heads", heads, deep, tails, outside, rounds)
	}
}
