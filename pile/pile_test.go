package pile

import (
	"math"
	"slices"
	"testing"

	"dyehouse/api"
)

const (
	least    = math.MinInt64
	greatest = math.MaxInt64
)

// it is an item of a key and a value.
func it(key, value int) api.Item { return api.Item{Key: key, Value: value} }

// model is what the promises say of a pile, worked out another way: a list in no order, whose first one is looked for.
type model struct{ all []api.Item }

func modelOf(l ...api.Item) *model { return &model{all: slices.Clone(l)} }

func (m *model) copy() *model { return modelOf(m.all...) }

// place is where the first one stands; -1: there is none.
func (m *model) place() int {
	found := -1
	for at, x := range m.all {
		switch {
		case found < 0 || x.Key > m.all[found].Key:
			found = at
		case x.Key == m.all[found].Key && x.Value < m.all[found].Value:
			found = at
		}
	}
	return found
}

func (m *model) push(x api.Item) { m.all = append(m.all, x) }

func (m *model) peek() (api.Item, bool) {
	at := m.place()
	if at < 0 {
		return api.Item{}, false
	}
	return m.all[at], true
}

func (m *model) pop() (api.Item, bool) {
	x, ok := m.peek()
	if ok {
		m.all = slices.Delete(m.all, m.place(), m.place()+1)
	}
	return x, ok
}

func (m *model) change(value, key int) int {
	count := 0
	for at, x := range m.all {
		if x.Value == value {
			m.all[at] = it(key, value)
			count++
		}
	}
	return count
}

func (m *model) drain(most int) []api.Item {
	var l []api.Item
	for most > len(l) && len(m.all) > 0 {
		x, _ := m.pop()
		l = append(l, x)
	}
	return l
}

// tryPile holds all that is asked of a pile, and takes nothing, against the model.
func tryPile(t *testing.T, p *Pile, m *model) {
	t.Helper()
	if got := p.Len(); got != len(m.all) {
		t.Fatalf("Len = %d; want %d of %v", got, len(m.all), m.all)
	}
	x, ok := p.Peek()
	if want, is := m.peek(); x != want || ok != is {
		t.Fatalf("Peek = %v, %t; want %v, %t of %v", x, ok, want, is, m.all)
	}
	if got := p.Len(); got != len(m.all) {
		t.Fatalf("Len behind Peek = %d; want %d of %v", got, len(m.all), m.all)
	}
}

// tryOrder takes all that wait one by one, and once more, each time held against the model.
func tryOrder(t *testing.T, p *Pile, m *model) {
	t.Helper()
	for range len(m.all) + 2 {
		tryPile(t, p, m)
		x, ok := p.Pop()
		if want, is := m.pop(); x != want || ok != is {
			t.Fatalf("Pop = %v, %t; want %v, %t ahead of %v", x, ok, want, is, m.all)
		}
	}
	tryPile(t, p, m)
}

// lists are those that piles are made of: none, one, the same one, in order, against it, mixed, and with far numbers.
func lists() map[string][]api.Item {
	far := farItems()
	return map[string][]api.Item{
		"nil":          nil,
		"none":         {},
		"one":          {it(3, 4)},
		"a zero one":   {it(0, 0)},
		"one below 0":  {it(-3, -4)},
		"two":          {it(1, 1), it(2, 2)},
		"two of a key": {it(5, 2), it(5, 1)},
		"one twice":    {it(3, 4), it(3, 4)},
		"one often":    slices.Repeat([]api.Item{it(3, 4)}, 9),
		"zero often":   slices.Repeat([]api.Item{it(0, 0)}, 9),
		"some often":   slices.Repeat([]api.Item{it(3, 4), it(7, 1), it(3, 4), it(3, 3), it(-1, 4)}, 4),
		"example":      {it(2, 5), it(7, 1), it(7, 0)},
		"in order":     {it(9, 1), it(8, 0), it(8, 3), it(7, 7), it(7, 8), it(2, -1), it(0, 0), it(-4, 9)},
		"against it":   {it(-4, 9), it(0, 0), it(2, -1), it(7, 8), it(7, 7), it(8, 3), it(8, 0), it(9, 1)},
		"mixed":        {it(7, 8), it(2, -1), it(9, 1), it(8, 3), it(-4, 9), it(7, 7), it(0, 0), it(8, 0)},
		"of one key":   {it(6, 5), it(6, -5), it(6, 0), it(6, 9), it(6, -9), it(6, 5), it(6, 1)},
		"of one value": {it(5, 6), it(-5, 6), it(0, 6), it(9, 6), it(-9, 6), it(5, 6), it(1, 6)},
		"far":          far,
		"far, about":   backwards(far),
		"many":         mixed(500, 40),
		"many others":  mixed(501, 1<<62),
	}
}

// farNumbers are the edges of numbers; some of them are the same if they are cut to 32 bits, or go round if they are taken
// from one another.
func farNumbers() []int {
	return []int{least, least + 1, -1 << 32, -1 << 31, -2, -1, 0, 1, 2, 1<<31 - 1, 1 << 31, 1 << 32, greatest - 1, greatest}
}

// farItems are all pairs of far numbers.
func farItems() []api.Item {
	var l []api.Item
	for _, key := range farNumbers() {
		for _, value := range farNumbers() {
			l = append(l, it(key, value))
		}
	}
	return l
}

func backwards(l []api.Item) []api.Item {
	l = slices.Clone(l)
	slices.Reverse(l)
	return l
}

// mixed is so many items, chosen by a rule that looks like chance and is always the same, with numbers about 0.
func mixed(count, width int) []api.Item {
	state := uint64(count)
	next := func() int {
		state = state*6364136223846793005 + 1442695040888963407
		return int(state>>1)%width - width/2
	}
	l := make([]api.Item, count)
	for at := range l {
		l[at] = it(next(), next())
	}
	return l
}

// The chapter's example.
func TestExample(t *testing.T) {
	p := New(it(2, 5), it(7, 1), it(7, 0))
	if x, ok := p.Peek(); !ok || x != it(7, 0) {
		t.Errorf("the first one is %v, %t", x, ok)
	}
	if got := p.Drain(3); !slices.Equal(got, []api.Item{it(7, 0), it(7, 1), it(2, 5)}) {
		t.Errorf("drained: %v", got)
	}
}

// 8.1, 8.2: each list's items wait, each as often as it is there, and come in order.
func TestNew(t *testing.T) {
	for name, l := range lists() {
		t.Run(name, func(t *testing.T) {
			p := New(l...)
			if p == nil {
				t.Fatal("there is none")
			}
			tryOrder(t, p, modelOf(l...))
		})
	}
}

// 8.1: Len, written out.
func TestLenWrittenOut(t *testing.T) {
	if New().Len() != 0 || New(it(0, 0)).Len() != 1 || New(it(1, 2), it(1, 2)).Len() != 2 || New(mixed(500, 3)...).Len() != 500 {
		t.Error("Len of a new one")
	}
	p := New(it(1, 1), it(2, 2), it(3, 2))
	steps := []struct {
		name string
		do   func()
		want int
	}{
		{"New", func() {}, 3},
		{"Push", func() { p.Push(it(5, 5)) }, 4},
		{"Push again", func() { p.Push(it(5, 5)) }, 5},
		{"Peek", func() { p.Peek() }, 5},
		{"Change", func() { p.Change(2, 9) }, 5},
		{"Change of none", func() { p.Change(77, 9) }, 5},
		{"Pop", func() { p.Pop() }, 4},
		{"Drain of 0", func() { p.Drain(0) }, 4},
		{"Drain of 2", func() { p.Drain(2) }, 2},
		{"Pop again", func() { p.Pop() }, 1},
		{"Drain of more", func() { p.Drain(7) }, 0},
		{"Pop of none", func() { p.Pop() }, 0},
		{"Change where none waits", func() { p.Change(1, 1) }, 0},
		{"Drain where none waits", func() { p.Drain(1) }, 0},
		{"Push to none", func() { p.Push(it(0, 0)) }, 1},
	}
	for _, s := range steps {
		s.do()
		if got := p.Len(); got != s.want {
			t.Fatalf("Len behind %s = %d; want %d", s.name, got, s.want)
		}
	}
}

// 8.1, R3: the list that was handed in stays as it was, and what lies behind it in its memory too, also behind each later
// call; and the pile stays as it is when the list is written to.
func TestListStays(t *testing.T) {
	room := []api.Item{it(1, 1), it(9, 2), it(5, 3), it(9, 1), it(5, 3), it(-7, -7), it(8, 8), it(70, 70)}
	want := slices.Clone(room)
	p := New(room[:5]...)
	later := []struct {
		name string
		do   func()
	}{
		{"New", func() {}},
		{"Peek", func() { p.Peek() }},
		{"Push", func() { p.Push(it(40, 40)) }},
		{"Push of a last one", func() { p.Push(it(-40, 40)) }},
		{"Change", func() { p.Change(3, 50) }},
		{"Pop", func() { p.Pop() }},
		{"Drain of 2", func() { p.Drain(2) }},
		{"Drain of all", func() { p.Drain(greatest) }},
		{"Push again", func() { p.Push(it(30, 30)) }},
		{"another New", func() { New(room[:5]...).Drain(3) }},
	}
	for _, l := range later {
		l.do()
		if !slices.Equal(room, want) {
			t.Fatalf("behind %s the list is %v", l.name, room)
		}
	}
	p, m := New(room[:5]...), modelOf(room[:5]...)
	for at := range room {
		room[at] = it(100+at, 100)
	}
	tryOrder(t, p, m)
}

// 8.1: two piles of one list are piles of their own.
func TestPilesOfTheirOwn(t *testing.T) {
	l := mixed(20, 9)
	p, o := New(l...), New(l...)
	p.Push(it(99, 99))
	p.Change(l[0].Value, 50)
	p.Drain(7)
	tryOrder(t, o, modelOf(l...))
}

// 8.1: Push to an empty pile, of a first one, of a last one, of one amidst, and of one that waits already.
func TestPush(t *testing.T) {
	cases := []struct {
		name string
		l    []api.Item
		x    api.Item
		want []api.Item
	}{
		{"to none", nil, it(3, 3), []api.Item{it(3, 3)}},
		{"a zero one to none", nil, it(0, 0), []api.Item{it(0, 0)}},
		{"the least to none", nil, it(least, least), []api.Item{it(least, least)}},
		{"a first one", []api.Item{it(3, 3), it(1, 1)}, it(4, 9), []api.Item{it(4, 9), it(3, 3), it(1, 1)}},
		{"a first one by its value", []api.Item{it(3, 3), it(1, 1)}, it(3, 2), []api.Item{it(3, 2), it(3, 3), it(1, 1)}},
		{"a last one", []api.Item{it(3, 3), it(1, 1)}, it(0, -9), []api.Item{it(3, 3), it(1, 1), it(0, -9)}},
		{"a last one by its value", []api.Item{it(3, 3), it(1, 1)}, it(1, 2), []api.Item{it(3, 3), it(1, 1), it(1, 2)}},
		{"one amidst", []api.Item{it(3, 3), it(1, 1)}, it(2, 5), []api.Item{it(3, 3), it(2, 5), it(1, 1)}},
		{"one amidst by its value", []api.Item{it(3, 3), it(3, 5)}, it(3, 4), []api.Item{it(3, 3), it(3, 4), it(3, 5)}},
		{"the first one again", []api.Item{it(3, 3), it(1, 1)}, it(3, 3), []api.Item{it(3, 3), it(3, 3), it(1, 1)}},
		{"the last one again", []api.Item{it(3, 3), it(1, 1)}, it(1, 1), []api.Item{it(3, 3), it(1, 1), it(1, 1)}},
		{"the greatest key", []api.Item{it(greatest-1, 0)}, it(greatest, 0), []api.Item{it(greatest, 0), it(greatest-1, 0)}},
		{"the least key", []api.Item{it(greatest, 0)}, it(least, 0), []api.Item{it(greatest, 0), it(least, 0)}},
		{"the least value", []api.Item{it(1, greatest)}, it(1, least), []api.Item{it(1, least), it(1, greatest)}},
		{"the greatest value", []api.Item{it(1, least)}, it(1, greatest), []api.Item{it(1, least), it(1, greatest)}},
	}
	for _, c := range cases {
		p := New(c.l...)
		p.Push(c.x)
		if p.Len() != len(c.want) {
			t.Errorf("%s: Len = %d", c.name, p.Len())
		}
		if x, ok := p.Peek(); !ok || x != c.want[0] {
			t.Errorf("%s: the first one is %v, %t; want %v", c.name, x, ok, c.want[0])
		}
		if got := p.Drain(greatest); !slices.Equal(got, c.want) {
			t.Errorf("%s: %v; want %v", c.name, got, c.want)
		}
	}
}

// 8.1: what is pushed one by one waits as what New was given, and is the first at its time.
func TestPushOneByOne(t *testing.T) {
	for name, l := range lists() {
		t.Run(name, func(t *testing.T) {
			p, m := New(), modelOf()
			for _, x := range l {
				p.Push(x)
				m.push(x)
				tryPile(t, p, m)
			}
			tryOrder(t, p, m)
		})
	}
}

// 8.2: the first of each two of far numbers, whichever came first.
func TestFirstOfTwo(t *testing.T) {
	for _, x := range farItems() {
		for _, o := range farItems() {
			want := o
			if x.Key > o.Key || x.Key == o.Key && x.Value < o.Value {
				want = x
			}
			p := New(x, o)
			if got, ok := p.Peek(); !ok || got != want {
				t.Fatalf("of %v and %v the first one is %v, %t", x, o, got, ok)
			}
			if got, ok := p.Pop(); !ok || got != want {
				t.Fatalf("of %v and %v Pop = %v, %t", x, o, got, ok)
			}
		}
	}
}

// 8.2: the first one, written out.
func TestFirstWrittenOut(t *testing.T) {
	cases := []struct {
		l    []api.Item
		want api.Item
	}{
		{[]api.Item{it(0, 0)}, it(0, 0)},
		{[]api.Item{it(0, 1), it(1, 0)}, it(1, 0)},
		{[]api.Item{it(0, 0), it(1, 9)}, it(1, 9)},
		{[]api.Item{it(-1, 0), it(-2, -9)}, it(-1, 0)},
		{[]api.Item{it(-1, 0), it(0, 5), it(-2, 1)}, it(0, 5)},
		{[]api.Item{it(4, 0), it(4, -1), it(4, 1)}, it(4, -1)},
		{[]api.Item{it(4, 0), it(4, least), it(4, -1)}, it(4, least)},
		{[]api.Item{it(4, greatest), it(3, least), it(3, 0)}, it(4, greatest)},
		{[]api.Item{it(least, 0), it(greatest, 0), it(0, 0)}, it(greatest, 0)},
		{[]api.Item{it(least, 0), it(1, 0)}, it(1, 0)},
		{[]api.Item{it(least, 0), it(greatest, 7), it(greatest, 6)}, it(greatest, 6)},
		{[]api.Item{it(least, greatest), it(least, least)}, it(least, least)},
		{[]api.Item{it(0, greatest), it(0, -2)}, it(0, -2)},
		{[]api.Item{it(1<<32, 1), it(1, 0)}, it(1<<32, 1)},
	}
	for _, c := range cases {
		for _, l := range [][]api.Item{c.l, backwards(c.l)} {
			if x, ok := New(l...).Peek(); !ok || x != c.want {
				t.Errorf("Peek of %v = %v, %t; want %v", l, x, ok, c.want)
			}
			if x, ok := New(l...).Pop(); !ok || x != c.want {
				t.Errorf("Pop of %v = %v, %t; want %v", l, x, ok, c.want)
			}
		}
	}
}

// 8.2: Peek takes nothing, however often.
func TestPeekTakesNothing(t *testing.T) {
	p := New(it(1, 1), it(3, 3), it(2, 2))
	for range 10 {
		if x, ok := p.Peek(); !ok || x != it(3, 3) || p.Len() != 3 {
			t.Fatalf("%v, %t; %d wait", x, ok, p.Len())
		}
	}
	if got := p.Drain(9); !slices.Equal(got, []api.Item{it(3, 3), it(2, 2), it(1, 1)}) {
		t.Errorf("then %v came", got)
	}
}

// 8.2: where none waits, because none came or because all are taken, a zero one and false are answered; then it goes on.
func TestNoneWaits(t *testing.T) {
	popped, drained := New(it(1, 1), it(2, 2)), New(it(1, 1), it(2, 2))
	popped.Pop()
	popped.Pop()
	drained.Drain(2)
	for name, p := range map[string]*Pile{"of none": New(), "of an empty list": New([]api.Item{}...), "popped": popped, "drained": drained} {
		for range 3 {
			if x, ok := p.Peek(); ok || x != it(0, 0) {
				t.Errorf("%s: Peek = %v, %t", name, x, ok)
			}
			if x, ok := p.Pop(); ok || x != it(0, 0) {
				t.Errorf("%s: Pop = %v, %t", name, x, ok)
			}
			if got := p.Change(1, 5); got != 0 {
				t.Errorf("%s: Change = %d", name, got)
			}
			if got := p.Drain(5); len(got) != 0 || p.Len() != 0 {
				t.Errorf("%s: Drain = %v; %d wait", name, got, p.Len())
			}
		}
		p.Push(it(4, 4))
		p.Push(it(6, 6))
		if got := p.Drain(5); !slices.Equal(got, []api.Item{it(6, 6), it(4, 4)}) {
			t.Errorf("%s: then %v came", name, got)
		}
	}
}

// 8.2: an item that is zero, and waits, is told with true.
func TestZeroItemWaits(t *testing.T) {
	p := New(it(0, 0))
	if x, ok := p.Peek(); !ok || x != it(0, 0) {
		t.Errorf("Peek = %v, %t", x, ok)
	}
	if x, ok := p.Pop(); !ok || x != it(0, 0) {
		t.Errorf("Pop = %v, %t", x, ok)
	}
	if x, ok := p.Pop(); ok || x != it(0, 0) {
		t.Errorf("Pop again = %v, %t", x, ok)
	}
}

// 8.2: Change, written out: what it answers, and in which order all come behind it.
func TestChangeWrittenOut(t *testing.T) {
	l := []api.Item{it(9, 1), it(7, 2), it(7, 3), it(5, 2), it(5, 2), it(3, 4), it(1, 1)}
	cases := []struct {
		name       string
		value, key int
		count      int
		want       []api.Item
	}{
		{"of none", 6, 99, 0, []api.Item{it(9, 1), it(7, 2), it(7, 3), it(5, 2), it(5, 2), it(3, 4), it(1, 1)}},
		{"of none, though it is a key", 9, 99, 0, []api.Item{it(9, 1), it(7, 2), it(7, 3), it(5, 2), it(5, 2), it(3, 4), it(1, 1)}},
		{"of one to a greater one", 4, 10, 1, []api.Item{it(10, 4), it(9, 1), it(7, 2), it(7, 3), it(5, 2), it(5, 2), it(1, 1)}},
		{"of one to one amidst", 4, 6, 1, []api.Item{it(9, 1), it(7, 2), it(7, 3), it(6, 4), it(5, 2), it(5, 2), it(1, 1)}},
		{"of one to another's", 4, 7, 1, []api.Item{it(9, 1), it(7, 2), it(7, 3), it(7, 4), it(5, 2), it(5, 2), it(1, 1)}},
		{"of one to a smaller one", 3, 2, 1, []api.Item{it(9, 1), it(7, 2), it(5, 2), it(5, 2), it(3, 4), it(2, 3), it(1, 1)}},
		{"of one to the least", 3, least, 1, []api.Item{it(9, 1), it(7, 2), it(5, 2), it(5, 2), it(3, 4), it(1, 1), it(least, 3)}},
		{"of one to its own", 3, 7, 1, []api.Item{it(9, 1), it(7, 2), it(7, 3), it(5, 2), it(5, 2), it(3, 4), it(1, 1)}},
		{"of several to a greater one", 2, 50, 3, []api.Item{it(50, 2), it(50, 2), it(50, 2), it(9, 1), it(7, 3), it(3, 4), it(1, 1)}},
		{"of several to a smaller one", 2, -8, 3, []api.Item{it(9, 1), it(7, 3), it(3, 4), it(1, 1), it(-8, 2), it(-8, 2), it(-8, 2)}},
		{"of several to the one of some", 2, 5, 3, []api.Item{it(9, 1), it(7, 3), it(5, 2), it(5, 2), it(5, 2), it(3, 4), it(1, 1)}},
		{"of the first and the last to amidst", 1, 4, 2, []api.Item{it(7, 2), it(7, 3), it(5, 2), it(5, 2), it(4, 1), it(4, 1), it(3, 4)}},
		{"of the first and the last to the greatest", 1, greatest, 2, []api.Item{it(greatest, 1), it(greatest, 1), it(7, 2), it(7, 3), it(5, 2), it(5, 2), it(3, 4)}},
		{"of the first and the last to 0", 1, 0, 2, []api.Item{it(7, 2), it(7, 3), it(5, 2), it(5, 2), it(3, 4), it(0, 1), it(0, 1)}},
	}
	for _, c := range cases {
		for _, from := range [][]api.Item{l, backwards(l)} {
			p := New(from...)
			if got := p.Change(c.value, c.key); got != c.count {
				t.Errorf("%s: Change = %d; want %d", c.name, got, c.count)
			}
			if got := p.Len(); got != len(l) {
				t.Errorf("%s: Len = %d", c.name, got)
			}
			if x, ok := p.Peek(); !ok || x != c.want[0] {
				t.Errorf("%s: the first one is %v, %t; want %v", c.name, x, ok, c.want[0])
			}
			if got := p.Drain(greatest); !slices.Equal(got, c.want) {
				t.Errorf("%s: %v; want %v", c.name, got, c.want)
			}
		}
	}
}

// 8.2: Change of several under the same key, with others of that key about.
func TestChangeOfOneKey(t *testing.T) {
	for _, key := range farNumbers() {
		l := []api.Item{it(4, 1), it(4, 2), it(4, 2), it(4, 3), it(4, 2)}
		p, m := New(l...), modelOf(l...)
		if got := p.Change(2, key); got != 3 || m.change(2, key) != 3 {
			t.Fatalf("Change to %d = %d", key, got)
		}
		tryOrder(t, p, m)
	}
}

// 8.2: each list's values changed to each far key, and to keys that they have, and back.
func TestChange(t *testing.T) {
	for name, l := range lists() {
		t.Run(name, func(t *testing.T) {
			if len(l) > 40 {
				l = append(slices.Clone(l[:20]), l[len(l)-20:]...)
			}
			values, keys := []int{77}, farNumbers()
			for _, x := range l {
				values, keys = append(values, x.Value), append(keys, x.Key, x.Key-1, x.Key+1)
			}
			slices.Sort(values)
			slices.Sort(keys)
			for _, value := range slices.Compact(values) {
				p, m := New(l...), modelOf(l...)
				for _, key := range slices.Compact(slices.Clone(keys)) {
					if got, want := p.Change(value, key), m.change(value, key); got != want {
						t.Fatalf("Change of %d to %d = %d; want %d", value, key, got, want)
					}
					tryPile(t, p, m)
					o, om := New(l...), modelOf(l...)
					o.Change(value, key)
					om.change(value, key)
					if got, want := o.Drain(greatest), om.drain(greatest); !slices.Equal(got, want) {
						t.Fatalf("behind Change of %d to %d: %v; want %v", value, key, got, want)
					}
				}
				tryOrder(t, p, m)
			}
		})
	}
}

// 8.2: from now on: what is pushed later keeps its own key, though it has that value.
func TestChangeIsOfThoseThatWait(t *testing.T) {
	p := New(it(1, 5), it(2, 6), it(3, 5))
	p.Pop()
	if got := p.Change(5, 9); got != 1 {
		t.Errorf("Change = %d", got)
	}
	p.Push(it(4, 5))
	if got := p.Drain(9); !slices.Equal(got, []api.Item{it(9, 5), it(4, 5), it(2, 6)}) {
		t.Errorf("then %v came", got)
	}
	if got := p.Change(5, 9); got != 0 {
		t.Errorf("Change of what is taken = %d", got)
	}
}

// 8.2: Drain, written out, and what waits behind it.
func TestDrainWrittenOut(t *testing.T) {
	l := []api.Item{it(2, 5), it(7, 1), it(7, 0), it(2, 5), it(-1, 9)}
	want := []api.Item{it(7, 0), it(7, 1), it(2, 5), it(2, 5), it(-1, 9)}
	for most, count := range map[int]int{
		least: 0, least + 1: 0, -1 << 32: 0, -2: 0, -1: 0, 0: 0, 1: 1, 2: 2, 3: 3, 4: 4, 5: 5, 6: 5, 7: 5, 1 << 31: 5, 1<<32 + 1: 5,
		greatest - 1: 5, greatest: 5,
	} {
		p := New(l...)
		if got := p.Drain(most); !slices.Equal(got, want[:count]) {
			t.Errorf("Drain(%d) = %v", most, got)
		}
		if p.Len() != len(l)-count {
			t.Errorf("behind Drain(%d) %d wait", most, p.Len())
		}
		if x, ok := p.Peek(); ok != (count < len(l)) || ok && x != want[count] {
			t.Errorf("behind Drain(%d) the first one is %v, %t", most, x, ok)
		}
		if got := p.Drain(greatest); !slices.Equal(got, want[count:]) {
			t.Errorf("behind Drain(%d) come %v", most, got)
		}
		if got := p.Drain(most); len(got) != 0 {
			t.Errorf("behind all Drain(%d) = %v", most, got)
		}
	}
}

// 8.2: Drain is so many Pops, of each list, of each number up to one more than wait, and goes on where it ended.
func TestDrain(t *testing.T) {
	for name, l := range lists() {
		t.Run(name, func(t *testing.T) {
			for _, most := range []int{least, -1, 0, 1, 2, 3, len(l) / 2, len(l) - 1, len(l), len(l) + 1, 2 * len(l), greatest} {
				p, m := New(l...), modelOf(l...)
				for range 3 {
					if got, want := p.Drain(most), m.drain(most); !slices.Equal(got, want) {
						t.Fatalf("Drain(%d) = %v; want %v", most, got, want)
					}
					tryPile(t, p, m)
				}
				tryOrder(t, p, m)
			}
		})
	}
}

// 8.2, R3: what is done to a list that was drained, and to the room behind it, changes nothing of the pile, nor of another
// list; and what is done to the pile changes nothing of the lists.
func TestDrainedIsNew(t *testing.T) {
	for name, l := range lists() {
		t.Run(name, func(t *testing.T) {
			p, m := New(l...), modelOf(l...)
			first, second := p.Drain(len(l)/3), p.Drain(len(l)/3)
			m.drain(len(l) / 3)
			want := m.drain(len(l) / 3)
			for at := range first[:cap(first)] {
				first[:cap(first)][at] = it(greatest, -7)
			}
			_ = append(first, it(greatest, -8))
			tryPile(t, p, m)
			if !slices.Equal(second, want) {
				t.Fatalf("the second list became %v; want %v", second, want)
			}
			for at := range len(l) + 1 {
				p.Push(it(at, at))
				m.push(it(at, at))
			}
			p.Change(0, 50)
			m.change(0, 50)
			if !slices.Equal(second, want) {
				t.Fatalf("behind Push and Change the second list is %v; want %v", second, want)
			}
			tryOrder(t, p, m)
			if !slices.Equal(second, want) {
				t.Fatalf("behind Pop the second list is %v; want %v", second, want)
			}
		})
	}
}

// tryDrained holds what a pile of some items, made at once or one by one, drains at once against the model, and against 8.3's
// words: each stands no later than the one behind it, and is there as often as it came.
func tryDrained(t *testing.T, l []api.Item) {
	t.Helper()
	pushed := New()
	for _, x := range l {
		pushed.Push(x)
	}
	want := modelOf(l...).drain(len(l))
	for _, p := range []*Pile{New(l...), pushed} {
		got := p.Drain(len(l))
		for at := 1; at < len(got); at++ {
			if x, o := got[at-1], got[at]; x.Key < o.Key || x.Key == o.Key && x.Value > o.Value {
				t.Fatalf("of %v come %v", l, got)
			}
		}
		if !slices.Equal(got, want) || p.Len() != 0 {
			t.Fatalf("of %v come %v, and %d wait", l, got, p.Len())
		}
	}
}

// 8.3: all lists of up to six items of four.
func TestDrainedInOrderOfSmallLists(t *testing.T) {
	four := []api.Item{it(0, 0), it(1, 1), it(1, 0), it(-1, 2)}
	var l []api.Item
	var grow func(left int)
	grow = func(left int) {
		tryDrained(t, l)
		if left == 0 {
			return
		}
		for _, x := range four {
			l = append(l, x)
			grow(left - 1)
			l = l[:len(l)-1]
		}
	}
	grow(6)
}

// 8.3: all orders of seven different items.
func TestDrainedInOrderOfAllOrders(t *testing.T) {
	l := []api.Item{it(3, 0), it(3, 1), it(2, -4), it(2, 8), it(0, 0), it(-3, 0), it(-3, 2)}
	var turn func(from int)
	turn = func(from int) {
		if from == len(l) {
			tryDrained(t, l)
			return
		}
		for at := from; at < len(l); at++ {
			l[from], l[at] = l[at], l[from]
			turn(from + 1)
			l[from], l[at] = l[at], l[from]
		}
	}
	turn(0)
}

// 8.3: many lists of each length, with few and with many different numbers.
func TestDrainedInOrderOfManyLists(t *testing.T) {
	for count := range 120 {
		for _, width := range []int{1, 2, 3, 5, 10, 100, 1 << 40, 1 << 62} {
			tryDrained(t, mixed(count, width))
		}
	}
}

// 8.3: a great pile, in which most of the work is not done twice.
func TestGreatPile(t *testing.T) {
	l := mixed(200_000, 1<<30)
	p := New(l[:100_000]...)
	for _, x := range l[100_000:] {
		p.Push(x)
	}
	if p.Len() != len(l) {
		t.Fatalf("%d wait", p.Len())
	}
	want := slices.Clone(l)
	slices.SortFunc(want, func(x, o api.Item) int {
		switch {
		case x == o:
			return 0
		case x.Key > o.Key || x.Key == o.Key && x.Value < o.Value:
			return -1
		}
		return 1
	})
	got := p.Drain(150_000)
	if !slices.Equal(got, want[:150_000]) || p.Len() != 50_000 {
		t.Fatalf("%d came, not in order, or not those; %d wait", len(got), p.Len())
	}
	if got := p.Drain(greatest); !slices.Equal(got, want[150_000:]) || p.Len() != 0 {
		t.Fatalf("then %d came; %d wait", len(got), p.Len())
	}
}

// The brackets: each call of a pile that is nil; it takes nothing, so that it stays so.
func TestNil(t *testing.T) {
	var none *Pile
	for range 2 {
		if none.Len() != 0 {
			t.Errorf("Len = %d", none.Len())
		}
		if x, ok := none.Peek(); ok || x != it(0, 0) {
			t.Errorf("Peek = %v, %t", x, ok)
		}
		if x, ok := none.Pop(); ok || x != it(0, 0) {
			t.Errorf("Pop = %v, %t", x, ok)
		}
		for _, n := range farNumbers() {
			if none.Change(n, n) != 0 || len(none.Drain(n)) != 0 {
				t.Errorf("Change or Drain of %d", n)
			}
			none.Push(it(n, n))
			if none.Len() != 0 {
				t.Errorf("it took %d", n)
			}
		}
	}
}

// P0: of a pile that New did not make nothing is promised; it is as one that is nil.
func TestNotMade(t *testing.T) {
	var p Pile
	p.Push(it(1, 1))
	p.Push(it(2, 2))
	x, ok := p.Peek()
	y, is := p.Pop()
	if p.Len() != 0 || ok || is || x != y || p.Change(1, 3) != 0 || len(p.Drain(4)) != 0 {
		t.Errorf("%d wait, %v, %v", p.Len(), x, y)
	}
}

// tryCalls does what some bytes say with a pile, and with its model.
func tryCalls(t *testing.T, calls []byte) {
	t.Helper()
	p, m := New(), modelOf()
	for at := 0; at+2 < len(calls); at += 3 {
		a, b := int(int8(calls[at+1]))%8, int(int8(calls[at+2]))%8
		if calls[at] >= 250 {
			a, b = farNumbers()[(a+8)%14], farNumbers()[(b+8)%14]
		}
		switch calls[at] % 10 {
		case 0, 1, 2, 3:
			p.Push(it(a, b))
			m.push(it(a, b))
		case 4, 5:
			x, ok := p.Pop()
			if want, is := m.pop(); x != want || ok != is {
				t.Fatalf("call %d of %d: Pop = %v, %t; want %v, %t", at/3, calls, x, ok, want, is)
			}
		case 6, 7:
			if got, want := p.Change(a, b), m.change(a, b); got != want {
				t.Fatalf("call %d of %d: Change(%d, %d) = %d; want %d", at/3, calls, a, b, got, want)
			}
		case 8:
			if got, want := p.Drain(a), m.drain(a); !slices.Equal(got, want) {
				t.Fatalf("call %d of %d: Drain(%d) = %v; want %v", at/3, calls, a, got, want)
			}
		case 9:
			p = New(m.all...)
		}
		tryPile(t, p, m)
	}
	copied := New(m.all...)
	tryOrder(t, copied, m.copy())
	tryOrder(t, p, m)
}

// 8.1 to 8.3: calls one behind the other, chosen by a rule that looks like chance and is always the same.
func TestManyCalls(t *testing.T) {
	state := uint64(8)
	for range 2000 {
		calls := make([]byte, 240)
		for at := range calls {
			state = state*6364136223846793005 + 1442695040888963407
			calls[at] = byte(state >> 56)
		}
		tryCalls(t, calls)
	}
}

// 8.1 to 8.3: any calls.
func FuzzCalls(f *testing.F) {
	f.Add([]byte{0, 2, 5, 0, 7, 1, 0, 7, 0, 6, 1, 3, 8, 2, 0, 4, 0, 0})
	f.Fuzz(func(t *testing.T, calls []byte) {
		if len(calls) > 300 {
			calls = calls[:300]
		}
		tryCalls(t, calls)
	})
}
