package graph

import (
	"slices"
	"strconv"
	"testing"

	"dyehouse/api"
)

// source makes numbers that look as if they came by chance, and always the same ones.
type source struct {
	state uint64
}

// below is a number from 0 to below a bound.
func (s *source) below(bound int) int {
	s.state += 0x9e3779b97f4a7c15
	z := s.state
	z = (z ^ z>>30) * 0xbf58476d1ce4e5b9
	z = (z ^ z>>27) * 0x94d049bb133111eb
	return int((z ^ z>>31) % uint64(bound))
}

// one is one of these.
func one[T any](s *source, list ...T) T {
	return list[s.below(len(list))]
}

// function is a function of so many blocks, of most of which the labels are their own, and which go on with up to so many.
func (s *source) function(blocks, most int) api.Func {
	label := func() string {
		switch s.below(20) {
		case 0:
			return one(s, "", "none", "b", "b-1", "b"+strconv.Itoa(blocks))
		}
		return "b" + strconv.Itoa(s.below(max(blocks, 1)))
	}
	// Some functions have blocks that stand in a row, and are met on long ways.
	inRow := s.below(3) == 0
	var f api.Func
	for i := range blocks {
		b := api.Block{Label: "b" + strconv.Itoa(i), Edge: s.below(2) == 0}
		if s.below(15) == 0 {
			b.Label = label()
		}
		for range s.below(3) {
			b.Code = append(b.Code, api.Instr{Op: s.below(30) - 1, Labels: []string{label(), label()}})
		}
		if s.below(15) > 0 {
			end := api.Instr{Op: one(s, api.OpBr, api.OpBrif, api.OpSwitch, api.OpRet)}
			if inRow && s.below(8) > 0 {
				end.Labels = append(end.Labels, "b"+strconv.Itoa(i+1))
			}
			for range 1 + s.below(most) {
				end.Labels = append(end.Labels, label())
			}
			b.Code = append(b.Code, end)
		}
		f.Blocks = append(f.Blocks, b)
	}
	return f
}

// goesOn is with which blocks each goes on, as the chapter says it.
func goesOn(f api.Func) [][]int {
	all := make([][]int, len(f.Blocks))
	for i, b := range f.Blocks {
		if len(b.Code) == 0 {
			continue
		}
		end := b.Code[len(b.Code)-1]
		if end.Op != 20 && end.Op != 21 && end.Op != 22 && end.Op != 23 {
			continue
		}
		known := map[int]int{}
		for _, label := range end.Labels {
			for to, other := range f.Blocks {
				if other.Label == label {
					if known[to] == 0 {
						all[i] = append(all[i], to)
					}
					known[to]++
					break
				}
			}
		}
	}
	return all
}

// ordering is the order in which blocks were left, back: by a function that calls itself, as the chapter says it.
func ordering(succ [][]int) []int {
	if len(succ) == 0 {
		return nil
	}
	entered := map[int]int{}
	var order []int
	var enter func(i int)
	enter = func(i int) {
		entered[i] = 1
		for _, to := range succ[i] {
			if entered[to] == 0 {
				enter(to)
			}
		}
		order = append([]int{i}, order...)
	}
	enter(0)
	return order
}

// widened is the blocks from which one is reached without another one: all are gone through till none comes to them any more.
func widened(succ [][]int, to, without int) []int {
	in := make([]int, len(succ))
	if 0 <= to && to < len(succ) && to != without {
		in[to] = 1
	}
	for more := true; more; {
		more = false
		for i, all := range succ {
			for _, next := range all {
				if in[next] == 1 && in[i] == 0 && i != without {
					in[i], more = 1, true
				}
			}
		}
	}
	var list []int
	for i, v := range in {
		if v == 1 {
			list = append(list, i)
		}
	}
	return list
}

// ways hands on all ways from one block on that go through no block twice.
func ways(succ [][]int, way []int, hand func(way []int)) {
	hand(way)
	for _, next := range succ[way[len(way)-1]] {
		if !slices.Contains(way, next) {
			ways(succ, append(slices.Clone(way), next), hand)
		}
	}
}

// byWays is the blocks from which one is reached without another one, by all ways that there are: none need go through a block twice.
func byWays(succ [][]int, to, without int) []int {
	var list []int
	for i := range succ {
		found := false
		ways(succ, []int{i}, func(way []int) {
			found = found || way[len(way)-1] == to && !slices.Contains(way, without)
		})
		if found {
			list = append(list, i)
		}
	}
	return list
}

// likeModel asks of a function's graph all but Away.
func likeModel(t *testing.T, f api.Func) {
	t.Helper()
	g, succ := New(f), goesOn(f)
	goes(t, "made", g, succ...)
	ordered(t, "made", g, ordering(succ)...)
}

// likeWays asks Away of each pair of blocks, and of some numbers of which there are none.
func likeWays(t *testing.T, f api.Func, away func(succ [][]int, to, without int) []int) {
	t.Helper()
	g, succ := New(f), goesOn(f)
	for to := -1; to <= len(succ); to++ {
		for _, without := range append(count(-1, len(succ)+1), least, greatest) {
			isSet(t, "Away to "+strconv.Itoa(to)+" without "+strconv.Itoa(without), g.Away(to, without), len(succ), away(succ, to, without)...)
		}
	}
}

// choices are all lists of some of these labels, each once, in each order.
func choices(labels ...string) [][]string {
	all := [][]string{nil}
	for at := 0; at < len(all); at++ {
		for _, label := range labels {
			if !slices.Contains(all[at], label) {
				all = append(all, append(slices.Clone(all[at]), label))
			}
		}
	}
	return all
}

// TestAllSmall: all functions of up to three blocks.
func TestAllSmall(t *testing.T) {
	for many := range 4 {
		labels := []string{"a", "b", "c"}[:many]
		var lay func(blocks []api.Block)
		lay = func(blocks []api.Block) {
			if len(blocks) < many {
				for _, next := range choices(labels...) {
					lay(append(slices.Clone(blocks), block(labels[len(blocks)], next...)))
				}
				return
			}
			f := function(blocks...)
			likeModel(t, f)
			likeWays(t, f, byWays)
		}
		lay(nil)
		if t.Failed() {
			return
		}
	}
}

// TestSmallWays: small functions, held against all ways that there are.
func TestSmallWays(t *testing.T) {
	s := &source{state: 19}
	for range 3000 {
		f := s.function(s.below(7), 3)
		likeModel(t, f)
		likeWays(t, f, byWays)
		if t.Failed() {
			t.Fatalf("%+v", f)
		}
	}
}

// TestMany: functions of up to 80 blocks, held against plain searches.
func TestMany(t *testing.T) {
	s := &source{state: 80}
	for range 1500 {
		f := s.function(s.below(81), one(s, 1, 2, 3, 3, 17))
		likeModel(t, f)
		g, succ := New(f), goesOn(f)
		for range 30 {
			to, without := s.below(len(succ)+2)-1, s.below(len(succ)+2)-1
			isSet(t, "Away", g.Away(to, without), len(succ), widened(succ, to, without)...)
		}
		if t.Failed() {
			t.Fatalf("%+v", f)
		}
	}
}

// TestManyWhole: of some such functions each pair of blocks.
func TestManyWhole(t *testing.T) {
	s := &source{state: 3}
	for _, many := range []int{0, 1, 2, 8, 20, 63, 64, 65, 80} {
		for range 4 {
			f := s.function(many, one(s, 1, 2, 3))
			likeModel(t, f)
			likeWays(t, f, widened)
			if t.Failed() {
				t.Fatalf("%+v", f)
			}
		}
	}
}

// TestMade: of the functions that are made some blocks are reached and some aren't, and many go round.
func TestMade(t *testing.T) {
	s := &source{state: 80}
	reached, all, round := 0, 0, 0
	for range 300 {
		succ := goesOn(s.function(40, one(s, 1, 2, 3)))
		order := ordering(succ)
		reached, all = reached+len(order), all+len(succ)
		for at, i := range order {
			for _, to := range succ[i] {
				if slices.Contains(order[:at+1], to) {
					round++
				}
			}
		}
	}
	if reached < all/5 || reached > all*4/5 || round < 1000 {
		t.Errorf("%d of %d reached, %d times back", reached, all, round)
	}
}
