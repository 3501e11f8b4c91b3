package bits

import (
	"maps"
	"math"
	"slices"
	"testing"
)

const (
	least    = math.MinInt64
	greatest = math.MaxInt64
	great    = 1 << 20
)

// bounds are those that the promises name: none, below 0, and about the widths of one word and of two.
func bounds() []int {
	return []int{least, least + 1, -65, -64, -1, 0, 1, 2, 63, 64, 65, 127, 128, 129, 200, great - 1, great}
}

// small are the bounds whose sets are gone through whole often.
func small() []int {
	return []int{-1, 0, 1, 2, 63, 64, 65, 127, 128, 129, 200}
}

// far are numbers that may be in no set here; some of them go round to small ones if they are cut to 32 bits or to 6, or
// if the sign is lost.
func far() []int {
	return []int{
		least, least + 1, least + 64, -1 << 32, -1<<32 + 1, -1 << 31, -great, -129, -128, -65, -64, -63, -2, -1,
		great, great + 1, great + 64, 1<<31 - 1, 1 << 31, 1 << 32, 1<<32 + 1, 1 << 62, greatest - 63, greatest - 1, greatest,
	}
}

// near are numbers about the edges of a bound, and of words.
func near(bound int) []int {
	return append(far(), 0, 1, 2, 31, 32, 62, 63, 64, 65, 126, 127, 128, 129, 199, 200, bound-2, bound-1, bound, bound+1, bound+63, bound+64)
}

// model is what the promises say of a set, worked out another way.
type model struct {
	bound int
	has   map[int]bool
}

// modelOf is the model of a set of some numbers.
func modelOf(n int, l ...int) model {
	m := model{bound: max(n, 0), has: map[int]bool{}}
	for _, i := range l {
		m.add(i)
	}
	return m
}

func (m model) may(i int) bool { return i >= 0 && i < m.bound }

func (m model) add(i int) bool {
	if !m.may(i) || m.has[i] {
		return false
	}
	m.has[i] = true
	return true
}

func (m model) drop(i int) bool {
	was := m.has[i]
	delete(m.has, i)
	return was
}

func (m model) list() []int {
	return slices.Sorted(maps.Keys(m.has))
}

func (m model) copy() model {
	return model{bound: m.bound, has: maps.Clone(m.has)}
}

func (m model) or(o model) bool {
	changed := false
	for i := range maps.Clone(o.has) {
		changed = m.add(i) || changed
	}
	return changed
}

func (m model) and(o model) bool {
	was := len(m.has)
	maps.DeleteFunc(m.has, func(i int, _ bool) bool { return !o.has[i] })
	return len(m.has) != was
}

func (m model) minus(o model) bool {
	was := len(m.has)
	other := maps.Clone(o.has)
	maps.DeleteFunc(m.has, func(i int, _ bool) bool { return other[i] })
	return len(m.has) != was
}

// trySet holds all that is asked of a set, and changes nothing of it, against the model.
func trySet(t *testing.T, s *Set, m model) {
	t.Helper()
	want := m.list()
	if got := s.Bound(); got != m.bound {
		t.Fatalf("Bound = %d; want %d", got, m.bound)
	}
	if got := s.Count(); got != len(want) {
		t.Fatalf("Count of bound %d = %d; want %d", m.bound, got, len(want))
	}
	if got := s.List(); !slices.Equal(got, want) {
		t.Fatalf("List of bound %d = %.60d; want %.60d", m.bound, got, want)
	}
	for _, i := range near(m.bound) {
		if got := s.Has(i); got != m.has[i] {
			t.Fatalf("Has(%d) of bound %d = %t", i, m.bound, got)
		}
	}
	at := 0
	for i := range s.All() {
		if at >= len(want) || i != want[at] {
			t.Fatalf("All of bound %d hands on %d at %d", m.bound, i, at)
		}
		at++
	}
	if at != len(want) {
		t.Fatalf("All of bound %d hands on %d numbers; want %d", m.bound, at, len(want))
	}
}

// picks are some choices of numbers for a bound, numbers that may not be in it among them.
func picks(bound int) [][]int {
	even, third := []int{}, []int{}
	for i := range max(bound, 0) {
		if i%2 == 0 {
			even = append(even, i)
		}
		if i%3 == 1 {
			third = append(third, i)
		}
	}
	return [][]int{
		nil, {0}, {bound - 1}, {bound}, {0, bound - 1}, {63}, {64}, {63, 64}, {62, 65, 127, 128}, {128, 0, 64},
		{0, 0}, {5, 5, 5, 5}, {-1}, {-64, -1}, {least}, {greatest}, {least, 3, greatest, 3, -1, bound, bound + 1},
		near(bound), even, third,
	}
}

// The chapter's example.
func TestExample(t *testing.T) {
	s := Of(70, 3, 69, 70)
	if s.Count() != 2 || !s.Has(3) || !s.Has(69) || s.Has(70) || s.Bound() != 70 {
		t.Errorf("%d, below %d", s.List(), s.Bound())
	}
}

// 7.1: sets without numbers, of each bound.
func TestNew(t *testing.T) {
	for _, n := range bounds() {
		trySet(t, New(n), modelOf(n))
	}
}

// 7.1: bounds, written out.
func TestBound(t *testing.T) {
	for n, want := range map[int]int{least: 0, -1: 0, 0: 0, 1: 1, 63: 63, 64: 64, 65: 65, 127: 127, 128: 128, 129: 129, great: great} {
		for _, s := range []*Set{New(n), Of(n), Of(n, 0, 1, n), Full(n), Full(n).Copy()} {
			if got := s.Bound(); got != want {
				t.Errorf("Bound of %d = %d; want %d", n, got, want)
			}
		}
	}
}

// 7.1: sets of some numbers, of each bound; the list that was handed in stays as it was, and is not kept.
func TestOf(t *testing.T) {
	for _, n := range bounds() {
		for _, l := range picks(n) {
			given := slices.Clone(l)
			s, m := Of(n, given...), modelOf(n, l...)
			if !slices.Equal(given, l) {
				t.Fatalf("the list of bound %d became %.60d", n, given)
			}
			for i := range given {
				given[i] = 1
			}
			if n > 1<<10 && len(l) > 1<<10 {
				continue
			}
			trySet(t, s, m)
		}
	}
}

// 7.1: sets of some numbers, written out.
func TestOfWrittenOut(t *testing.T) {
	cases := []struct {
		n    int
		l    []int
		want []int
	}{
		{10, nil, nil},
		{10, []int{4, 4}, []int{4}},
		{10, []int{9, 0, 5}, []int{0, 5, 9}},
		{10, []int{-1, 10, 11, least, greatest, 9}, []int{9}},
		{64, []int{63, 64, 65, 0}, []int{0, 63}},
		{65, []int{63, 64, 65, 0}, []int{0, 63, 64}},
		{66, []int{63, 64, 65, 0}, []int{0, 63, 64, 65}},
		{0, []int{0, 1, -1}, nil},
		{-5, []int{0, -5, -6, -1}, nil},
		{least, []int{0, least, greatest}, nil},
		{1, []int{0, 1}, []int{0}},
		{great, []int{great, great - 1, 0}, []int{0, great - 1}},
	}
	for _, c := range cases {
		if got := Of(c.n, c.l...).List(); !slices.Equal(got, c.want) {
			t.Errorf("Of(%d, %d) has %d; want %d", c.n, c.l, got, c.want)
		}
	}
}

// 7.1: what lies behind the list's length is not read, nor written.
func TestOfReadsNoRoom(t *testing.T) {
	room := []int{1, 2, 3, 4}
	if got := Of(9, room[:2]...).List(); !slices.Equal(got, []int{1, 2}) {
		t.Errorf("it has %d", got)
	}
	if !slices.Equal(room, []int{1, 2, 3, 4}) {
		t.Errorf("the room became %d", room)
	}
}

// 7.1: sets of all numbers, of each bound: what may not be in them is not.
func TestFull(t *testing.T) {
	for _, n := range bounds() {
		s, bound := Full(n), max(n, 0)
		if s.Bound() != bound || s.Count() != bound {
			t.Fatalf("Full(%d): %d, below %d", n, s.Count(), s.Bound())
		}
		at := 0
		for i := range s.All() {
			if i != at || !s.Has(i) {
				t.Fatalf("Full(%d) hands on %d at %d", n, i, at)
			}
			at++
		}
		if at != bound || len(s.List()) != bound {
			t.Fatalf("Full(%d) hands on %d numbers, lists %d", n, at, len(s.List()))
		}
		for _, i := range near(n) {
			if s.Has(i) != (i >= 0 && i < n) {
				t.Fatalf("Full(%d) has %d: %t", n, i, s.Has(i))
			}
		}
	}
}

// 7.1: Add and Drop of each kind of number, where it changes something, and where it does not.
func TestAddAndDrop(t *testing.T) {
	for _, n := range bounds() {
		for _, full := range []bool{false, true} {
			s := New(n)
			if full {
				s = Full(n)
			}
			for _, i := range near(n) {
				may, count := i >= 0 && i < n, s.Count()
				if full && may && !s.Drop(i) {
					t.Fatalf("Drop(%d) of bound %d changed nothing", i, n)
				}
				if s.Has(i) {
					t.Fatalf("bound %d has %d", n, i)
				}
				if s.Drop(i) {
					t.Fatalf("Drop(%d) of bound %d changed something", i, n)
				}
				if got := s.Add(i); got != may || s.Has(i) != may {
					t.Fatalf("Add(%d) of bound %d = %t, Has = %t", i, n, got, s.Has(i))
				}
				if s.Add(i) || s.Has(i) != may {
					t.Fatalf("Add(%d) of bound %d again changed something", i, n)
				}
				if got := s.Drop(i); got != may || s.Has(i) {
					t.Fatalf("Drop(%d) of bound %d = %t, Has = %t", i, n, got, s.Has(i))
				}
				if full {
					s.Add(i)
				}
				if s.Count() != count || s.Bound() != max(n, 0) {
					t.Fatalf("behind %d bound %d has %d numbers, below %d", i, n, s.Count(), s.Bound())
				}
			}
		}
	}
}

// 7.1: each number alone, of each small bound: nothing else is put in, nor taken out.
func TestEachNumber(t *testing.T) {
	for _, n := range small() {
		for i := -70; i < 270; i++ {
			s, m := New(n), modelOf(n)
			if got, want := s.Add(i), m.add(i); got != want {
				t.Fatalf("Add(%d) of bound %d = %t", i, n, got)
			}
			trySet(t, s, m)
			s, m = Full(n), modelOf(n, Full(n).List()...)
			if got, want := s.Drop(i), m.drop(i); got != want {
				t.Fatalf("Drop(%d) of bound %d = %t", i, n, got)
			}
			trySet(t, s, m)
		}
	}
}

// merges are the calls that take another set, with what the model makes of them.
func merges() map[string]struct {
	set  func(s, o *Set) bool
	want func(m, o model) bool
} {
	return map[string]struct {
		set  func(s, o *Set) bool
		want func(m, o model) bool
	}{
		"Or":    {(*Set).Or, model.or},
		"And":   {(*Set).And, model.and},
		"Minus": {(*Set).Minus, model.minus},
	}
}

// 7.2: each two sets of small bounds: the same bound, a smaller one, a greater one, 0; the other set stays as it was.
func TestMerge(t *testing.T) {
	for name, merge := range merges() {
		for _, n := range small() {
			for _, k := range small() {
				for _, l := range picks(n) {
					for _, other := range append(picks(k), picks(n)...) {
						s, m := Of(n, l...), modelOf(n, l...)
						o, om := Of(k, other...), modelOf(k, other...)
						if got, want := merge.set(s, o), merge.want(m, om); got != want {
							t.Fatalf("%s of bound %d, %d, with %d, %d = %t", name, n, l, k, other, got)
						}
						if s.Count() != len(m.has) || !slices.Equal(s.List(), m.list()) || s.Bound() != m.bound {
							t.Fatalf("%s of bound %d, %d, with %d, %d: %d", name, n, l, k, other, s.List())
						}
						if o.Bound() != om.bound || !slices.Equal(o.List(), om.list()) {
							t.Fatalf("%s of bound %d with %d, %d: that became %d", name, n, k, other, o.List())
						}
						// Once more it changes nothing.
						if merge.set(s, o) {
							t.Fatalf("%s of bound %d, %d, with %d, %d again changed something", name, n, l, k, other)
						}
					}
				}
			}
		}
	}
}

// 7.2: all choices among six numbers at the words' edges, of two bounds each.
func TestMergeOfAllChoices(t *testing.T) {
	edges := []int{0, 1, 63, 64, 127, 128}
	choose := func(mask int) []int {
		var l []int
		for k, i := range edges {
			if mask>>k&1 == 1 {
				l = append(l, i)
			}
		}
		return l
	}
	for name, merge := range merges() {
		for _, two := range [][2]int{{129, 129}, {64, 129}, {129, 64}, {128, 63}, {1, 129}, {129, 0}, {0, 129}} {
			for a := range 1 << len(edges) {
				for b := range 1 << len(edges) {
					s, m := Of(two[0], choose(a)...), modelOf(two[0], choose(a)...)
					o, om := Of(two[1], choose(b)...), modelOf(two[1], choose(b)...)
					if got, want := merge.set(s, o), merge.want(m, om); got != want || !slices.Equal(s.List(), m.list()) {
						t.Fatalf("%s of %d: %b with %b = %t, %d", name, two, a, b, got, s.List())
					}
				}
			}
		}
	}
}

// 7.2: written out, with the answers.
func TestMergeWrittenOut(t *testing.T) {
	s := Of(70, 3, 69)
	if !s.Or(Of(200, 3, 5, 70, 71, 128, 199)) || !slices.Equal(s.List(), []int{3, 5, 69}) || s.Count() != 3 {
		t.Errorf("Or: %d", s.List())
	}
	if s.Or(Of(200, 70, 100)) || s.Count() != 3 || s.Bound() != 70 {
		t.Errorf("Or with what may not be in it: %d", s.List())
	}
	if s.And(Full(70)) || s.And(Full(200)) || s.Count() != 3 {
		t.Errorf("And with all: %d", s.List())
	}
	if !s.And(Full(69)) || !slices.Equal(s.List(), []int{3, 5}) {
		t.Errorf("And with a smaller one: %d", s.List())
	}
	if s.Minus(Of(200, 4, 6, 69, 199)) || s.Count() != 2 {
		t.Errorf("Minus with others: %d", s.List())
	}
	if !s.Minus(Of(4, 3)) || !slices.Equal(s.List(), []int{5}) {
		t.Errorf("Minus: %d", s.List())
	}
	if s.Or(New(0)) || s.Minus(New(0)) || s.Count() != 1 {
		t.Errorf("with a set of bound 0: %d", s.List())
	}
	if !s.And(New(0)) || s.Count() != 0 || s.And(New(0)) || s.Bound() != 70 {
		t.Errorf("And with a set of bound 0: %d", s.List())
	}
	none := New(0)
	if none.Or(Full(70)) || none.And(Full(70)) || none.Minus(Full(70)) || none.Count() != 0 || none.Bound() != 0 {
		t.Errorf("of bound 0: %d", none.List())
	}
}

// 7.2: with itself.
func TestMergeWithItself(t *testing.T) {
	for _, n := range small() {
		for _, l := range picks(n) {
			s, m := Of(n, l...), modelOf(n, l...)
			if s.Or(s) || s.And(s) {
				t.Fatalf("of bound %d, %d: Or or And with itself changed something", n, l)
			}
			trySet(t, s, m)
			if got := s.Minus(s); got != (len(m.has) > 0) {
				t.Fatalf("of bound %d, %d: Minus with itself = %t", n, l, got)
			}
			trySet(t, s, modelOf(n))
			if s.Minus(s) {
				t.Fatalf("of bound %d, %d: Minus with itself again changed something", n, l)
			}
		}
	}
}

// 7.2: great bounds, and the last number below them.
func TestMergeOfGreatBounds(t *testing.T) {
	s, o := New(great), Full(great)
	if !s.Or(o) || s.Count() != great || s.Or(o) || s.And(o) || !s.Same(o) {
		t.Fatalf("Or: %d numbers", s.Count())
	}
	o.Drop(great - 1)
	if !s.And(o) || s.Count() != great-1 || s.Has(great-1) || s.And(o) {
		t.Fatalf("And: %d numbers", s.Count())
	}
	if !s.Minus(Full(great-2)) || !slices.Equal(s.List(), []int{great - 2}) {
		t.Fatalf("Minus: %d", s.List())
	}
	less := New(great - 1)
	if !less.Or(Full(great)) || less.Count() != great-1 || less.Has(great-1) {
		t.Fatalf("Or of a smaller bound: %d numbers", less.Count())
	}
}

// 7.2: what was merged in is not kept: neither set changes with the other one.
func TestMergeKeepsNothing(t *testing.T) {
	for name, merge := range merges() {
		s, o := Full(130), Of(130, 1, 64, 129)
		merge.set(s, o)
		before, other := s.List(), o.List()
		o.Add(70)
		o.Drop(1)
		if !slices.Equal(s.List(), before) {
			t.Errorf("%s: %d", name, s.List())
		}
		o = Of(130, other...)
		merge.set(s, o)
		s.Add(71)
		s.Drop(129)
		s.Drop(0)
		if !slices.Equal(o.List(), other) {
			t.Errorf("%s: the other one became %d", name, o.List())
		}
	}
}

// leave goes through a set's numbers, and leaves them at the one at that place.
func leave(s *Set, place int) []int {
	var got []int
	for i := range s.All() {
		got = append(got, i)
		if len(got) == place+1 {
			break
		}
	}
	return got
}

// 7.3: All is left at each place, from the first number to the last one, and nothing is handed on any more.
func TestAllIsLeft(t *testing.T) {
	for _, n := range small() {
		for _, l := range append(picks(n), Full(n).List()) {
			s := Of(n, l...)
			want := s.List()
			for place := range want {
				if got := leave(s, place); !slices.Equal(got, want[:place+1]) {
					t.Fatalf("of bound %d left at place %d: %d", n, place, got)
				}
				count := 0
				s.All()(func(int) bool {
					count++
					return count <= place
				})
				if count != place+1 {
					t.Fatalf("of bound %d %d numbers were handed on; %d were wanted", n, count, place+1)
				}
			}
			if !slices.Equal(s.List(), want) {
				t.Fatalf("of bound %d the set became %d", n, s.List())
			}
		}
	}
}

// 7.3, R4: All can be gone through again, amidst another time, and when it was left.
func TestAllAgain(t *testing.T) {
	for _, n := range small() {
		for _, l := range picks(n) {
			s := Of(n, l...)
			want, all := s.List(), s.All()
			if all == nil {
				t.Fatalf("All of bound %d is nil", n)
			}
			for range all {
				break
			}
			outer := 0
			for i := range all {
				if i != want[outer] || !slices.Equal(slices.Collect(all), want) {
					t.Fatalf("of bound %d at place %d: %d", n, outer, i)
				}
				outer++
			}
			if outer != len(want) || !slices.Equal(slices.Collect(all), want) {
				t.Fatalf("of bound %d %d numbers came, and then %d", n, outer, slices.Collect(all))
			}
		}
	}
}

// 7.3: All, written out: rising, each once, whatever the order in which they came; none of a set without numbers.
func TestAllWrittenOut(t *testing.T) {
	if got := slices.Collect(Of(200, 199, 64, 3, 63, 3, 128, 0).All()); !slices.Equal(got, []int{0, 3, 63, 64, 128, 199}) {
		t.Errorf("All = %d", got)
	}
	for _, s := range []*Set{New(0), New(1), New(64), New(200), New(-1), Of(70, 70), New(great)} {
		for i := range s.All() {
			t.Errorf("a set without numbers hands on %d", i)
		}
		if got := s.List(); len(got) != 0 {
			t.Errorf("List = %d", got)
		}
	}
	if got := slices.Collect(Of(great, great-1).All()); !slices.Equal(got, []int{great - 1}) {
		t.Errorf("All = %d", got)
	}
}

// 7.1, 7.3: each number can be dropped when it is handed on.
func TestDropWhatIsHandedOn(t *testing.T) {
	s := Full(200)
	at := 0
	for i := range s.All() {
		if i != at || !s.Drop(i) {
			t.Fatalf("%d at place %d", i, at)
		}
		at++
	}
	if at != 200 || s.Count() != 0 {
		t.Errorf("%d came, %d are left", at, s.Count())
	}
}

// 7.3, R3: what is done to a list changes nothing of the set, nor of another list; and the other way round.
func TestListIsNew(t *testing.T) {
	for _, n := range small() {
		for _, l := range picks(n) {
			s := Of(n, l...)
			first, second := s.List(), s.List()
			want := slices.Clone(second)
			for i := range first[:cap(first)] {
				first[:cap(first)][i] = -7
			}
			_ = append(first, 99)
			if !slices.Equal(second, want) || !slices.Equal(s.List(), want) {
				t.Fatalf("of bound %d: %d, %d; want %d", n, second, s.List(), want)
			}
			s.Minus(s)
			s.Add(0)
			if !slices.Equal(second, want) {
				t.Fatalf("of bound %d the list became %d; want %d", n, second, want)
			}
		}
	}
}

// 7.3: a copy has the same bound and numbers, and is a set of its own.
func TestCopy(t *testing.T) {
	for _, n := range small() {
		for _, l := range append(picks(n), Full(n).List()) {
			s, m := Of(n, l...), modelOf(n, l...)
			c := s.Copy()
			if c == nil || c == s {
				t.Fatalf("the copy of bound %d is %p of %p", n, c, s)
			}
			trySet(t, c, m)
			for i := range n {
				if c.Has(i) {
					c.Drop(i)
				} else {
					c.Add(i)
				}
			}
			trySet(t, s, m)
			c = s.Copy()
			s.Or(Full(n))
			trySet(t, c, m)
			s.Minus(s)
			trySet(t, c, m)
			c.And(New(0))
			trySet(t, s, modelOf(n))
		}
	}
	if c := Full(great).Copy(); c.Bound() != great || c.Count() != great {
		t.Errorf("a great copy has %d, below %d", c.Count(), c.Bound())
	}
}

// 7.3: Same of each two sets of small bounds.
func TestSame(t *testing.T) {
	for _, n := range small() {
		for _, k := range small() {
			for _, l := range picks(n) {
				for _, other := range append(picks(k), l) {
					s, o := Of(n, l...), Of(k, other...)
					want := slices.Equal(modelOf(n, l...).list(), modelOf(k, other...).list())
					if s.Same(o) != want || o.Same(s) != want {
						t.Fatalf("Same of %d, %d and %d, %d is not %t", n, l, k, other, want)
					}
				}
			}
		}
	}
}

// 7.3: Same, written out: other bounds, one more, one less, and itself.
func TestSameWrittenOut(t *testing.T) {
	s := Of(70, 3, 69)
	cases := []struct {
		o    *Set
		want bool
	}{
		{s, true}, {s.Copy(), true}, {Of(70, 69, 3), true}, {Of(71, 3, 69), true}, {Of(128, 3, 69), true}, {Of(129, 3, 69), true},
		{Of(great, 3, 69), true}, {Of(great, 3, 69, great-1), false}, {Of(70, 3), false}, {Of(69, 3, 69), false}, {Of(4, 3), false},
		{Of(70, 3, 4, 69), false}, {Of(200, 3, 69, 128), false}, {Of(200, 3, 69, 199), false}, {Of(70, 3, 68), false},
		{Of(70, 5, 69), false}, {New(70), false}, {New(0), false}, {Full(70), false},
	}
	for _, c := range cases {
		if s.Same(c.o) != c.want || c.o.Same(s) != c.want {
			t.Errorf("Same with %d, below %d, is not %t", c.o.List(), c.o.Bound(), c.want)
		}
	}
	for _, n := range bounds() {
		if !New(n).Same(New(0)) || !New(0).Same(New(n)) || !Full(n).Same(Full(n)) || Full(n).Same(New(n)) != (n <= 0) {
			t.Errorf("of bound %d", n)
		}
		if n > 0 && (Full(n).Same(Full(n-1)) || Full(n-1).Same(Full(n)) || !Full(n-1).Same(Of(n, Full(n-1).List()...))) {
			t.Errorf("of bound %d and the one ahead of it", n)
		}
	}
	if s.Count() != 2 || s.Bound() != 70 {
		t.Errorf("the set became %d", s.List())
	}
}

// The brackets: each call of a set that is nil.
func TestNil(t *testing.T) {
	var none *Set
	if none.Bound() != 0 || none.Count() != 0 {
		t.Errorf("%d, %d", none.Bound(), none.Count())
	}
	for _, i := range near(0) {
		if none.Has(i) || none.Add(i) || none.Drop(i) || none.Has(i) {
			t.Errorf("of %d", i)
		}
	}
	full := Full(70)
	for name, merge := range merges() {
		for _, o := range []*Set{full, New(70), New(0), nil} {
			if merge.set(none, o) || none.Count() != 0 {
				t.Errorf("%s of a set that is nil changed something", name)
			}
		}
	}
	if full.Count() != 70 {
		t.Errorf("the other set became %d", full.List())
	}
	if none.All() == nil {
		t.Error("All is nil")
	}
	for i := range none.All() {
		t.Errorf("it hands on %d", i)
	}
	if none.List() != nil || none.Copy() != nil {
		t.Errorf("%d, %p", none.List(), none.Copy())
	}
	// It has no numbers, as those have none.
	if none.Same(full) || !none.Same(New(70)) || !none.Same(New(0)) || !none.Same(nil) {
		t.Error("Same of a set that is nil")
	}
}

// The brackets: with an o that is nil nothing is done; it has no numbers.
func TestOtherIsNil(t *testing.T) {
	for _, n := range small() {
		for _, l := range picks(n) {
			s, m := Of(n, l...), modelOf(n, l...)
			if s.Or(nil) || s.And(nil) || s.Minus(nil) {
				t.Fatalf("of bound %d, %d: something was changed", n, l)
			}
			trySet(t, s, m)
			if got := s.Same(nil); got != (len(m.has) == 0) {
				t.Fatalf("of bound %d, %d: Same = %t", n, l, got)
			}
		}
	}
}

// P0: of a bound above 2^20 nothing is promised; but none panics, and those that memory is there for are no others.
func TestBoundAboveAll(t *testing.T) {
	s := Of(great*2, 0, great, great*2-1, great*2)
	if s.Count() != 3 || s.Bound() != great*2 {
		t.Errorf("%d, below %d", s.List(), s.Bound())
	}
	// It is asked for no number, so that its memory is never touched.
	if New(greatest) == nil {
		t.Error("there is none")
	}
}

// tryCalls does what some bytes say with two sets, and with their models.
func tryCalls(t *testing.T, calls []byte) {
	t.Helper()
	edges := []int{0, 1, 63, 64, 65, 127, 128, 129}
	n, k := 129, 65
	if len(calls) > 1 {
		n, k = edges[int(calls[0])%len(edges)], edges[int(calls[1])%len(edges)]
	}
	s, m, o, om := New(n), modelOf(n), New(k), modelOf(k)
	for at := 0; at+1 < len(calls); at += 2 {
		i, got, want := int(calls[at+1])-20, false, false
		switch calls[at] % 8 {
		case 0, 1:
			got, want = s.Add(i), m.add(i)
		case 2:
			got, want = s.Drop(i), m.drop(i)
		case 3:
			got, want = s.Or(o), m.or(om)
		case 4:
			got, want = s.And(o), m.and(om)
		case 5:
			got, want = s.Minus(o), m.minus(om)
		case 6:
			s, m, o, om = o, om, s, m
		case 7:
			s, m = s.Copy(), m.copy()
		}
		if got != want {
			t.Fatalf("call %d of %d = %t", at/2, calls, got)
		}
		if s.Same(o) != maps.Equal(m.has, om.has) {
			t.Fatalf("behind call %d of %d: Same = %t", at/2, calls, s.Same(o))
		}
		trySet(t, s, m)
		trySet(t, o, om)
	}
}

// 7.1 to 7.3: calls one behind the other, chosen by a rule that looks like chance and is always the same.
func TestManyCalls(t *testing.T) {
	state := uint64(7)
	for range 300 {
		calls := make([]byte, 120)
		for at := range calls {
			state = state*6364136223846793005 + 1442695040888963407
			calls[at] = byte(state >> 56)
		}
		tryCalls(t, calls)
	}
}

// 7.1 to 7.3: any calls.
func FuzzCalls(f *testing.F) {
	f.Add([]byte{0, 20, 0, 84, 6, 0, 0, 148, 3, 0, 5, 0})
	f.Fuzz(func(t *testing.T, calls []byte) {
		if len(calls) > 200 {
			calls = calls[:200]
		}
		tryCalls(t, calls)
	})
}
