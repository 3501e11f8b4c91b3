package loops

import (
	"math"
	"reflect"
	"slices"
	"strconv"
	"strings"
	"testing"

	"dyehouse/api"
	"dyehouse/bits"
	"dyehouse/graph"
	"dyehouse/parse"
)

const (
	least    = math.MinInt64
	greatest = math.MaxInt64
)

// far are numbers of which there is no block, in a graph of some blocks.
func far(blocks int) []int {
	return []int{-1, -2, -blocks - 1, blocks, blocks + 1, blocks + 64, 1 << 20, api.MaxID, api.MaxID + 1, 1 << 32, 1<<32 + 1, -1 << 32, 1 - 1<<32, least, least + 1, greatest - 1, greatest}
}

// block is a block that goes on with those of some labels.
func block(label string, labels ...string) api.Block {
	return api.Block{Label: label, Code: []api.Instr{{Op: api.OpSwitch, Labels: labels}}}
}

// function is a function of blocks.
func function(blocks ...api.Block) api.Func {
	return api.Func{Name: "f", Blocks: blocks}
}

// letters makes blocks out of words: the first letter of each is its block's label, all others are those with which it goes on.
func letters(words string) api.Func {
	var blocks []api.Block
	for _, word := range strings.Fields(words) {
		blocks = append(blocks, block(word[:1], strings.Split(word[1:], "")...))
	}
	return function(blocks...)
}

// joins is a function of so many blocks; with which ones each goes on is asked for.
func joins(many int, next func(i int) []int) api.Func {
	var blocks []api.Block
	for i := range many {
		var labels []string
		for _, to := range next(i) {
			labels = append(labels, "b"+strconv.Itoa(to))
		}
		blocks = append(blocks, block("b"+strconv.Itoa(i), labels...))
	}
	return function(blocks...)
}

// count is all numbers from one on, below another one.
func count(from, to int) []int {
	var list []int
	for i := from; i < to; i++ {
		list = append(list, i)
	}
	return list
}

// back is a list, the last one first.
func back(list []int) []int {
	list = slices.Clone(list)
	slices.Reverse(list)
	return list
}

// is asks whether a list has these.
func is(t *testing.T, what string, got []int, want ...int) {
	t.Helper()
	if !slices.Equal(got, want) {
		t.Errorf("%s: %v, not %v", what, got, want)
	}
}

// isSet asks whether a set has these, and may have all below a bound.
func isSet(t *testing.T, what string, got *bits.Set, bound int, want ...int) {
	t.Helper()
	if got == nil {
		t.Errorf("%s: nil", what)
		return
	}
	is(t, what, got.List(), want...)
	if got.Bound() != bound {
		t.Errorf("%s: below %d, not below %d", what, got.Bound(), bound)
	}
}

// depths is in how many of some loops each block is.
func depths(bodies [][]int) []int {
	depth := make([]int, len(bodies))
	for _, body := range bodies {
		for _, i := range body {
			depth[i]++
		}
	}
	return depth
}

// inners is, for each block, the head of that one of the loops around it that has the fewest blocks, of those of as few the greatest; -1: there is none.
func inners(bodies [][]int) []int {
	inner := slices.Repeat([]int{-1}, len(bodies))
	for i := range inner {
		for head, body := range bodies {
			if slices.Contains(body, i) && (inner[i] < 0 || len(body) <= len(bodies[inner[i]])) {
				inner[i] = head
			}
		}
	}
	return inner
}

// like asks loops all of each block; of each that is a head these are the blocks of its loop, rising, and of each other one none.
func like(t *testing.T, what string, l *Loops, bodies ...[]int) {
	t.Helper()
	if got := l.Len(); got != len(bodies) {
		t.Errorf("%s: Len: %d, not %d", what, got, len(bodies))
	}
	var heads []int
	for i, body := range bodies {
		if len(body) > 0 {
			heads = append(heads, i)
		}
		isSet(t, what+": Body of "+strconv.Itoa(i), l.Body(i), len(bodies), body...)
	}
	is(t, what+": Heads", l.Heads(), heads...)
	depth, inner := depths(bodies), inners(bodies)
	for i := range bodies {
		if got := l.Depth(i); got != depth[i] {
			t.Errorf("%s: Depth of %d: %d, not %d", what, i, got, depth[i])
		}
		if got := l.Inner(i); got != inner[i] {
			t.Errorf("%s: Inner of %d: %d, not %d", what, i, got, inner[i])
		}
	}
}

// likeNone asks loops of numbers of which there is no block.
func likeNone(t *testing.T, what string, l *Loops, blocks int) {
	t.Helper()
	for _, i := range far(blocks) {
		isSet(t, what+": Body of "+strconv.Itoa(i), l.Body(i), blocks)
		if got := l.Depth(i); got != 0 {
			t.Errorf("%s: Depth of %d: %d", what, i, got)
		}
		if got := l.Inner(i); got != -1 {
			t.Errorf("%s: Inner of %d: %d", what, i, got)
		}
	}
}

// spelt is a block's letter; a dot for none.
func spelt(i int) string {
	if i < 0 {
		return "."
	}
	return string(rune('a' + i))
}

// drawn asks loops all of each block, by letters: each word of loops has a head ahead, and the blocks of its loop behind a colon; depth and inner have a letter for each block.
func drawn(t *testing.T, words, loops, depth, inner string) {
	t.Helper()
	l := New(graph.New(letters(words)))
	bodies := make([][]int, len(strings.Fields(words)))
	for _, word := range strings.Fields(loops) {
		for _, letter := range word[2:] {
			bodies[word[0]-'a'] = append(bodies[word[0]-'a'], int(letter-'a'))
		}
	}
	like(t, words, l, bodies...)
	likeNone(t, words, l, len(bodies))
	var gotDepth, gotInner string
	for i := range bodies {
		gotDepth += strconv.Itoa(l.Depth(i))
		gotInner += spelt(l.Inner(i))
	}
	if gotDepth != depth || gotInner != inner {
		t.Errorf("%s: Depth and Inner: %s and %s, not %s and %s", words, gotDepth, gotInner, depth, inner)
	}
}

// TestExample: the chapter's example, with all that it doesn't tell, as it stands, and behind another block.
func TestExample(t *testing.T) {
	for _, text := range []string{
		"func f(%0) { regs %0:g; b: br c; c: brif %0, c, d; d: br b; }",
		"func f(%0) { regs %0:g; b: br c; c: brif %0, d, c; d: br b; }",
	} {
		f, err := parse.Text(text)
		if err != nil {
			t.Fatal(err)
		}
		like(t, "example", New(graph.New(f)), []int{0, 1, 2}, []int{1}, nil)
	}
	drawn(t, "ab bc ccd db", "b:bcd c:c", "0121", ".bcb")
}

// TestNone: graphs without blocks, a graph that is nil, and loops that are nil.
func TestNone(t *testing.T) {
	var none *Loops
	behind := letters("ab ba")
	behind.Blocks = behind.Blocks[:0]
	for _, l := range []*Loops{none, New(nil), New(graph.New(api.Func{})), New(graph.New(function())), New(graph.New(behind))} {
		like(t, "none", l)
		likeNone(t, "none", l, 0)
		isSet(t, "none: Body of 0", l.Body(0), 0)
		if l.Depth(0) != 0 || l.Inner(0) != -1 {
			t.Error("none: there is a block 0")
		}
	}
	if New(nil) == nil || New(graph.New(api.Func{})) == nil {
		t.Error("New: nil")
	}
}

// TestOne: graphs of one block.
func TestOne(t *testing.T) {
	drawn(t, "a", "", "0", ".")
	drawn(t, "ax", "", "0", ".")
	drawn(t, "aa", "a:a", "1", "a")
	drawn(t, "aaa", "a:a", "1", "a")
	drawn(t, "axa", "a:a", "1", "a")
	// A block that doesn't end, or has nothing, goes on with none.
	like(t, "no end", New(graph.New(function(api.Block{Label: "a", Code: []api.Instr{{Op: api.OpCopy, Labels: []string{"a"}}}}))), nil)
	like(t, "no code", New(graph.New(function(api.Block{Label: "a"}))), nil)
}

// TestNoLoop: rows, and blocks that part and meet again.
func TestNoLoop(t *testing.T) {
	for _, words := range []string{
		"ab b", "ab bc c", "ab bc cd d", "ac b cb", "ad b cb dc",
		"abc b c", "abc bd cd d", "acb bd cd d", "abc bc c", "acb bc c", "abc b cb", "abd bc cd d",
		"abcd be ce de e", "abc bd cd def eg fg g", "abg bcd ce de ef fh gh h", "abc bde cef dg eg fg g", "abb bcc c",
	} {
		many := len(strings.Fields(words))
		drawn(t, words, "", strings.Repeat("0", many), strings.Repeat(".", many))
	}
}

// TestLoops: of graphs of each kind the loops, and what follows of them.
func TestLoops(t *testing.T) {
	for _, c := range []struct{ words, loops, depth, inner string }{
		// Of two blocks, of many.
		{"ab ba", "a:ab", "11", "aa"},
		{"abb baa", "a:ab", "11", "aa"},
		{"ab bc cb", "b:bc", "011", ".bb"},
		{"ac b cbc", "c:c", "001", "..c"},
		{"ac bc cb", "c:bc", "011", ".cc"},
		{"ab bc cd de eb", "b:bcde", "01111", ".bbbb"},
		{"ab bc cd de ef fa", "a:abcdef", "111111", "aaaaaa"},
		{"af ba cb dc ed fe", "a:abcdef", "111111", "aaaaaa"},
		// One that goes on with itself, alone and within another loop.
		{"ab bb", "b:b", "01", ".b"},
		{"ab bbc c", "b:b", "010", ".b."},
		{"abc bb cc", "b:b c:c", "011", ".bc"},
		{"ab bbc ca", "a:abc b:b", "121", "aba"},
		{"ab bc cbc", "b:bc c:c", "012", ".bc"},
		{"ab bcd cc db", "b:bd c:c", "0111", ".bcb"},
		{"ab bc ccd ddb", "b:bcd c:c d:d", "0122", ".bcd"},
		// With blocks that part and meet again, and such as part and don't.
		{"ab bcd ce de eb", "b:bcde", "01111", ".bbbb"},
		{"ab bcd ceb de e", "b:bc", "01100", ".bb.."},
		{"ab bcd ce de ebf f", "b:bcde", "011110", ".bbbb."},
		{"ab bcde cf df ef fb", "b:bcdef", "011111", ".bbbbb"},
		// Several tails, of which one may be the head.
		{"ab bcd cb db", "b:bcd", "0111", ".bbb"},
		{"ab bcd cb deb eb", "b:bcde", "01111", ".bbbb"},
		{"aab ba", "a:ab", "11", "aa"},
		{"ab bbc cb", "b:bc", "011", ".bb"},
		{"ab bc cbd dbe eb", "b:bcde", "01111", ".bbbb"},
		{"ab bcb cdbb deb e", "b:bcd", "01110", ".bbb."},
		{"aabc baac caab", "a:abc", "111", "aaa"},
		// One within another.
		{"ab bc cd dce ebf f", "b:bcde c:cd", "012210", ".bccb."},
		{"ab bc cdb dce eb", "b:bcde c:cd", "01221", ".bccb"},
		{"ab bc cd de edf fcg gbh ha", "a:abcdefgh b:bcdefg c:cdef d:de", "12344321", "abcddcba"},
		{"ad bdc cb db", "b:bc d:bcd", "0221", ".bbd"},
		{"ah b chb dgc efd fe gf hg", "f:ef g:defg h:cdefgh", "00123321", "..hgffgh"},
		{"abe bcd cb dba ea", "a:abcde b:bcd", "12221", "abbba"},
		{"ab bc cd dbdac", "a:abcd b:bcd c:cd d:d", "1234", "abcd"},
		// Two within another, one behind the other, one or the other.
		{"ab bc cbd de eda", "a:abcde b:bc d:de", "12222", "abbdd"},
		{"abc bbd ccd da", "a:abcd b:b c:c", "1221", "abca"},
		{"abc bd ce dbf ecf fa", "a:abcdef b:bd c:ce", "122221", "abcbca"},
		// Side by side.
		{"ab bc cbd de edf f", "b:bc d:de", "011110", ".bbdd."},
		{"aab bbc cc", "a:a b:b c:c", "111", "abc"},
		{"abc bd ce dbf ecf f", "b:bd c:ce", "011110", ".bcbc."},
		{"abc bbd ccd d", "b:b c:c", "0110", ".bc."},
		// Two of one head are one, whatever they have in common.
		{"ab bcd cb db", "b:bcd", "0111", ".bbb"},
		{"ab bcd ce db eb", "b:bcde", "01111", ".bbbb"},
		{"ab bc cdeb db eb", "b:bcde", "01111", ".bbbb"},
		{"ab bcd cccb db", "b:bcd c:c", "0121", ".bcb"},
		{"abc bcab ca", "a:abc b:b", "121", "aba"},
		// The inner one's head is the outer one's tail.
		{"ab bc cdb dc", "b:bcd c:cd", "0122", ".bcc"},
		{"ab bc ccb", "b:bc c:c", "012", ".bc"},
		{"ab bca cdb dc", "a:abcd b:bcd c:cd", "1233", "abcc"},
		{"ab bc cd dbe ede", "b:bcde d:de e:e", "01123", ".bbde"},
		// The outer one's tail is in the inner one, too.
		{"ab bc cd dcb", "b:bcd c:cd", "0122", ".bcc"},
		// Left at the head, in the middle, at the tail, at several places, nowhere.
		{"ab bcd cb d", "b:bc", "0110", ".bb."},
		{"ab bc cde db e", "b:bcd", "01110", ".bbb."},
		{"ab bc cbd d", "b:bc", "0110", ".bb."},
		{"ab bce cdf dbg e f g", "b:bcd", "0111000", ".bbb..."},
		{"ab bce cdf dbe ef f", "b:bcd", "011100", ".bbb.."},
		{"ab bc cd db", "b:bcd", "0111", ".bbb"},
		// The inner one is left for the outer one, and for outside both.
		{"ab bc cdf dce eb f", "b:bcde c:cd", "012210", ".bccb."},
		{"ab bc cd dceg ebf f g", "b:bcde c:cd", "0122100", ".bccb.."},
		// What leads out of a loop, and no more into it, is not in it, though it leads on to other loops.
		{"ab bcd cb de ede", "b:bc d:de e:e", "01112", ".bbde"},
		// The head is block 0, and is gone back to from all over.
		{"abc bad cad da", "a:abcd", "1111", "aaaa"},
		{"ab bca cab", "a:abc b:bc", "122", "abb"},
	} {
		drawn(t, c.words, c.loops, c.depth, c.inner)
	}
}

// TestTwoEntries: rounds that are entered at two places are no loops, though there may be loops within them, and they within loops.
func TestTwoEntries(t *testing.T) {
	for _, c := range []struct{ words, loops, depth, inner string }{
		{"abc bc cb", "", "000", "..."},
		{"acb bc cb", "", "000", "..."},
		{"abc bcd cbd d", "", "0000", "...."},
		{"abc bd ce de ed", "", "00000", "....."},
		{"abcd bcd cbd dbc", "", "0000", "...."},
		{"abc bd cef de edf fe", "", "000000", "......"},
		{"abc bcd ceb df ef fde", "", "000000", "......"},
		// A loop within: of one block, of two.
		{"abc bbc cb", "b:b", "010", ".b."},
		{"abc bbc cbc", "b:b c:c", "011", ".bc"},
		{"abc bc cd dcb", "c:cd", "0011", "..cc"},
		{"abc bd cd dbed edc", "d:de", "00011", "...dd"},
		{"abc bd cb dbed edc", "b:bde d:de", "01022", ".b.dd"},
		// Within a loop.
		{"ab bcd cd dce eb", "b:bcde", "01111", ".bbbb"},
		{"ab bcd cdb dce e", "b:bcd", "01110", ".bbb."},
		{"abc bc cba", "a:abc", "111", "aaa"},
		{"aabc bc cb", "a:a", "100", "a.."},
		{"abcd bc cb da", "a:ad", "1001", "a..a"},
		// Within a loop, with one within.
		{"ab bcd cdc dce eb", "b:bcde c:c", "01211", ".bcbb"},
		{"ab bcd cd dcef ede fb", "b:bcdef d:de e:e", "011231", ".bbdeb"},
	} {
		drawn(t, c.words, c.loops, c.depth, c.inner)
	}
}

// TestNotReached: blocks that aren't reached are in no loop and have none, though tails are reached from them, and they change none of the others.
func TestNotReached(t *testing.T) {
	for _, c := range []struct{ words, loops, depth, inner string }{
		// Alone, in a row, in a round.
		{"a b", "", "00", ".."},
		{"a bb", "", "00", ".."},
		{"aa bb", "a:a", "10", "a."},
		{"a bc cb", "", "000", "..."},
		{"ab b cd de ec", "", "00000", "....."},
		{"ab ba cd dec ed", "a:ab", "11000", "aa..."},
		// Such as go on with blocks that are reached: with a head, with a tail, with what is between, with the one ahead.
		{"a ba", "", "00", ".."},
		{"aa ba", "a:a", "10", "a."},
		{"aa bab", "a:a", "10", "a."},
		{"ab bc cb db", "b:bc", "0110", ".bb."},
		{"ab bc cb dc", "b:bc", "0110", ".bb."},
		{"ab bc cd db ec", "b:bcd", "01110", ".bbb."},
		{"ab bc cb da", "b:bc", "0110", ".bb."},
		{"ab bc cbd d eabcd", "b:bc", "01100", ".bb.."},
		// A row and a round of them ahead of a loop.
		{"ab bc cb dc ed fe", "b:bc", "011000", ".bb..."},
		{"ab bc cb dec edb", "b:bc", "01100", ".bb.."},
		{"ae bce cb db ef fe", "e:ef", "000011", "....ee"},
		{"ae bf cf deg ef fe gdf", "e:ef", "0000110", "....ee."},
		// What would be a loop, if it were reached.
		{"ab b cb db", "", "0000", "...."},
		{"ab bc c dbc edc", "", "00000", "....."},
		// The head of what would be one is reached, its tail isn't; the tail is gone back to from elsewhere.
		{"ab bc c dcb", "", "0000", "...."},
		{"ab bc cb dcd edb", "b:bc", "01100", ".bb.."},
		// All but block 0.
		{"a bcd cbd dbc", "", "0000", "...."},
		{"aa babcd cabcd dabcd", "a:a", "1000", "a..."},
	} {
		drawn(t, c.words, c.loops, c.depth, c.inner)
	}
}

// TestSecondOfLabel: the first block of a label alone is gone on with by it.
func TestSecondOfLabel(t *testing.T) {
	like(t, "second", New(graph.New(letters("ab bc bd cb"))), nil, []int{1, 3}, nil, nil)
	like(t, "of itself", New(graph.New(letters("ab bc bb c"))), nil, nil, nil, nil)
}

// TestBody: the blocks of each loop, of blocks that are no heads, and of none.
func TestBody(t *testing.T) {
	l := New(graph.New(letters("ab bc cd dce ebf fg gfh h ib")))
	isSet(t, "Body of a", l.Body(0), 9)
	isSet(t, "Body of b", l.Body(1), 9, 1, 2, 3, 4)
	isSet(t, "Body of c", l.Body(2), 9, 2, 3)
	isSet(t, "Body of d, a tail", l.Body(3), 9)
	isSet(t, "Body of e, a tail", l.Body(4), 9)
	isSet(t, "Body of f", l.Body(5), 9, 5, 6)
	isSet(t, "Body of h, behind all", l.Body(7), 9)
	isSet(t, "Body of i, which isn't reached", l.Body(8), 9)
	isSet(t, "Body of none", l.Body(9), 9)
	isSet(t, "Body of none", l.Body(-1), 9)
	is(t, "Heads", l.Heads(), 1, 2, 5)
}

// TestHeads: they rise, whatever the order in which blocks are reached, and in which loops are within each other.
func TestHeads(t *testing.T) {
	l := New(graph.New(letters("ad bbc cba dbd")))
	is(t, "Heads", l.Heads(), 0, 1, 3)
	drawn(t, "ad bbc cba dbd", "a:abcd b:bc d:d", "1222", "abbd")
	// Many, so that a map tells them in their order by no chance.
	for _, many := range []int{1, 2, 7, 8, 9, 64, 65, 300} {
		itself := joins(many, func(i int) []int { return []int{i, i + 1} })
		is(t, "Heads", New(graph.New(itself)).Heads(), count(0, many)...)
		itself = joins(many, func(i int) []int { return []int{i, (i + many - 1) % many} })
		is(t, "Heads, the last ones first", New(graph.New(itself)).Heads(), count(0, many)...)
	}
}

// alone is the bodies of so many blocks, of which none is a head, but for block 0, whose loop has all.
func alone(many int) [][]int {
	bodies := make([][]int, many)
	bodies[0] = count(0, many)
	return bodies
}

// TestRow: some hundred blocks in a row that go back to one, or to many, or to none.
func TestRow(t *testing.T) {
	const many = 300
	ask := func(what string, bodies [][]int, next func(i int) []int) {
		t.Helper()
		like(t, what, New(graph.New(joins(many, next))), bodies...)
	}
	ask("row", make([][]int, many), func(i int) []int { return []int{i + 1} })
	ask("ring", alone(many), func(i int) []int { return []int{(i + 1) % many} })
	ask("turned ring", alone(many), func(i int) []int { return []int{(i + many - 1) % many} })
	ask("back to the first one", alone(many), func(i int) []int { return []int{i + 1, 0} })
	ask("back to the first one, first", alone(many), func(i int) []int { return []int{0, i + 1} })
	ask("turned, and back to the first one", alone(many), func(i int) []int { return []int{(i + many - 1) % many, 0} })
	ask("past one, and back to the first one", alone(many), func(i int) []int { return []int{i + 1, i + 2, 0} })
	bodies := make([][]int, many)
	for i := range bodies {
		bodies[i] = []int{i}
	}
	ask("each with itself", bodies, func(i int) []int { return []int{i, i + 1} })
	for i := range bodies {
		bodies[i] = count(i, many)
	}
	ask("back to each", bodies, func(i int) []int { return append(count(0, i+1), i+1) })
	ask("back from the last one to each", bodies, func(i int) []int {
		if i == many-1 {
			return count(0, many)
		}
		return []int{i + 1}
	})
	bodies[many-1] = nil
	ask("back to the one ahead", bodies, func(i int) []int { return []int{i + 1, i - 1} })
}

// TestNested: one loop within another, some hundred times.
func TestNested(t *testing.T) {
	const deep = 250
	bodies := make([][]int, 2*deep)
	for i := range deep {
		bodies[i] = count(i, 2*deep-i)
	}
	nested := joins(2*deep, func(i int) []int {
		if i < deep {
			return []int{i + 1}
		}
		return []int{2*deep - 1 - i, i + 1}
	})
	l := New(graph.New(nested))
	like(t, "nested", l, bodies...)
	for i := range deep {
		for _, at := range []int{i, 2*deep - 1 - i} {
			if l.Depth(at) != i+1 || l.Inner(at) != i {
				t.Errorf("nested: Depth and Inner of %d: %d and %d", at, l.Depth(at), l.Inner(at))
			}
		}
	}
}

// TestLadder: so many ways meet again and again that nobody could go each of them.
func TestLadder(t *testing.T) {
	const rungs = 100
	ladder := func(last ...int) *graph.Graph {
		return graph.New(joins(3*rungs, func(i int) []int {
			switch {
			case i == 3*rungs-1:
				return last
			case i%3 == 0:
				return []int{i + 1, i + 2}
			}
			return []int{i + 3 - i%3}
		}))
	}
	like(t, "ladder", New(ladder()), make([][]int, 3*rungs)...)
	// Who came past the last block is not in the loop, as no way leads back from there.
	body := slices.DeleteFunc(count(0, 3*rungs), func(i int) bool { return i == 3*rungs-2 })
	like(t, "ladder, and back", New(ladder(0)), append([][]int{body}, make([][]int, 3*rungs-1)...)...)
	bodies := make([][]int, 3*rungs)
	bodies[30] = body[30:]
	like(t, "ladder, and back to a rung", New(ladder(30)), bodies...)
	// Gone back to beside a rung, where it is entered otherwise, too.
	like(t, "ladder, and back beside a rung", New(ladder(31)), make([][]int, 3*rungs)...)
}

// TestAllToAll: each block goes on with all of them.
func TestAllToAll(t *testing.T) {
	const many = 200
	ask := func(what string, bodies [][]int, next func(i int) []int) {
		t.Helper()
		like(t, what, New(graph.New(joins(many, next))), bodies...)
	}
	bodies := alone(many)
	ask("all to all others", bodies, func(i int) []int { return append(count(0, i), count(i+1, many)...) })
	ask("all to all others behind them", make([][]int, many), func(i int) []int { return count(i+1, many) })
	for i := 1; i < many; i++ {
		bodies[i] = []int{i}
	}
	ask("all to all", bodies, func(int) []int { return count(0, many) })
	ask("all to all, the last first", bodies, func(int) []int { return back(count(0, many)) })
	bodies[many-1] = count(1, many)
	ask("all to all behind the last one", bodies, func(i int) []int {
		if i == 0 {
			return []int{many - 1}
		}
		return count(0, many)
	})
}

// answers is all that loops answer.
func answers(l *Loops) []any {
	all := []any{l.Len(), l.Heads()}
	for i := -1; i <= l.Len(); i++ {
		all = append(all, l.Body(i).Bound(), l.Body(i).List(), l.Depth(i), l.Inner(i))
	}
	return all
}

// told is all that a graph answers.
func told(g *graph.Graph) []any {
	all := []any{g.Len(), g.Edges(), g.Order(), g.Reached().List()}
	for i := -1; i <= g.Len(); i++ {
		all = append(all, g.Succ(i), g.Pred(i))
		for without := -1; without <= g.Len(); without++ {
			all = append(all, g.Away(i, without).List())
		}
	}
	return all
}

// some are words of graphs of different kinds.
func some() []string {
	return []string{
		"a", "aa", "ab bc cd d", "ab ba", "ab bc ccd db", "abc bc cb", "ab bcd cb db", "ab bc cd dce ebf f",
		"ab bc cd de edf fcg gbh ha", "aab bbc ccd dda", "ad bbc cba dbd", "ab bcd cd dcef ede fb", "ad bec c dfb e fgb gcd hb",
	}
}

// TestGiven: what is handed in isn't changed.
func TestGiven(t *testing.T) {
	for _, words := range some() {
		g := graph.New(letters(words))
		want := told(g)
		l := New(g)
		answers(l)
		if !reflect.DeepEqual(told(g), want) {
			t.Errorf("%s: the graph was changed", words)
		}
	}
}

// TestAgain: whatever is asked again is answered as before, by the same loops, and by others of that graph.
func TestAgain(t *testing.T) {
	for _, words := range some() {
		g := graph.New(letters(words))
		l := New(g)
		want := answers(l)
		for range 40 {
			if !reflect.DeepEqual(answers(l), want) || !reflect.DeepEqual(answers(New(g)), want) {
				t.Fatalf("%s: not the same again", words)
			}
		}
	}
}

// TestTwo: two of them, of one graph or of two, know nothing of each other.
func TestTwo(t *testing.T) {
	g := graph.New(letters("ab bc ccd db"))
	one, two, other := New(g), New(g), New(graph.New(letters("aab bc cb d e")))
	like(t, "one", one, nil, []int{1, 2, 3}, []int{2}, nil)
	spoil(one.Heads(), 3)
	one.Body(1).Add(0)
	one.Body(2).Drop(2)
	like(t, "two", two, nil, []int{1, 2, 3}, []int{2}, nil)
	like(t, "other", other, []int{0}, []int{1, 2}, nil, nil, nil)
	like(t, "one", one, nil, []int{1, 2, 3}, []int{2}, nil)
}

// spoil changes all of a list, and what lies behind it.
func spoil(list []int, with int) {
	list = list[:cap(list)]
	for i := range list {
		list[i] = with
	}
}

// TestOwn: what is answered can be changed, and what is asked next is as before.
func TestOwn(t *testing.T) {
	for _, words := range some() {
		l := New(graph.New(letters(words)))
		want := answers(l)
		heads := l.Heads()
		_ = append(heads, 5)
		spoil(heads, 77)
		if !reflect.DeepEqual(answers(l), want) {
			t.Errorf("%s: a change of the heads changed an answer", words)
		}
		for i := -1; i <= l.Len(); i++ {
			l.Body(i).Or(bits.Full(l.Len()))
			if !reflect.DeepEqual(answers(l), want) {
				t.Errorf("%s: more in the body of %d changed an answer", words, i)
			}
			l.Body(i).Minus(bits.Full(l.Len()))
			if !reflect.DeepEqual(answers(l), want) {
				t.Errorf("%s: less in the body of %d changed an answer", words, i)
			}
		}
	}
}

// TestApart: no two lists, and no two sets, of two answers share memory, so that a change of one of them doesn't show in the other.
func TestApart(t *testing.T) {
	for _, words := range some() {
		l := New(graph.New(letters(words)))
		heads, more := l.Heads(), l.Heads()
		kept := slices.Clone(more)
		spoil(heads, 77)
		is(t, words+": other heads", more, kept...)
		var sets []*bits.Set
		for i := -1; i <= l.Len(); i++ {
			sets = append(sets, l.Body(i), l.Body(i))
		}
		full := bits.Full(l.Len())
		for i, set := range sets {
			for _, other := range sets[i+1:] {
				want := other.List()
				set.Or(full)
				is(t, words+": another set", other.List(), want...)
				set.Minus(full)
				is(t, words+": another set", other.List(), want...)
			}
		}
	}
}
