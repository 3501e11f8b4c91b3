package name

import (
	"fmt"
	"math"
	"regexp"
	"slices"
	"strings"
	"testing"
)

const (
	letters = "abcdefghijklmnopqrstuvwxyz_"
	digits  = "0123456789"
)

var (
	isName = regexp.MustCompile(`\A[a-z_][0-9a-z_]{0,23}\z`)
	isEdge = regexp.MustCompile(`\A([a-z_][0-9a-z_]{0,23})\.([a-z_][0-9a-z_]{0,23})\z`)
	comes  = regexp.MustCompile(`\A[a-z_][0-9a-z_]*`)
)

// text is a name of so many bytes, from 1 on, of all that may stand in one.
func text(long int) string {
	all := strings.Repeat(letters+digits, 1+long/37)
	return all[:long]
}

// 4.1: each of the 256 bytes: small letters, digits and _ may stand in a name, and all of them but digits begin one.
func TestEachByte(t *testing.T) {
	for b := range 256 {
		c := byte(b)
		begins := strings.IndexByte(letters, c) >= 0
		stands := begins || strings.IndexByte(digits, c) >= 0
		if got := Letter(c); got != begins {
			t.Errorf("Letter(%q) = %t", c, got)
		}
		if got := Sign(c); got != stands {
			t.Errorf("Sign(%q) = %t", c, got)
		}
	}
}

// 4.1: the bytes a, z, 0, 9 and _, and those just beside them.
func TestBytesAtEdges(t *testing.T) {
	cases := []struct {
		c              byte
		begins, stands bool
	}{
		{'a' - 1, false, false}, {'a', true, true}, {'a' + 1, true, true},
		{'z' - 1, true, true}, {'z', true, true}, {'z' + 1, false, false},
		{'0' - 1, false, false}, {'0', false, true}, {'0' + 1, false, true},
		{'9' - 1, false, true}, {'9', false, true}, {'9' + 1, false, false},
		{'_' - 1, false, false}, {'_', true, true}, {'_' + 1, false, false},
		{'A', false, false}, {'Z', false, false}, {'.', false, false}, {'-', false, false}, {'%', false, false},
		{0, false, false}, {' ', false, false}, {'\n', false, false}, {127, false, false},
		{'a' + 128, false, false}, {'0' + 128, false, false}, {255, false, false},
	}
	for _, c := range cases {
		if Letter(c.c) != c.begins || Sign(c.c) != c.stands {
			t.Errorf("%q: Letter %t, Sign %t; want %t, %t", c.c, Letter(c.c), Sign(c.c), c.begins, c.stands)
		}
	}
}

// 4.1: ordinary names, and texts that are none.
func TestRight(t *testing.T) {
	for _, s := range []string{
		"a", "z", "_", "f", "main", "b0", "b12", "a_b", "_0", "__", "a__", "_9z", "x0y1z2", "func", "abc", "a1b2c3",
	} {
		if !Right(s) {
			t.Errorf("Right(%q) = false", s)
		}
	}
	for _, s := range []string{
		"", "0", "9", "0a", "9_", "12", "A", "aB", "Ab", ".", "a.", ".a", "a.b", "a b", " a", "a ", "a-b", "a\n", "\na",
		"a\x00", "\x00", "%0", "#0", "a:", "\u00e4", "a\u00e4", "\u0430", "a\u0661", "\xff", "a\xe1", "\"a\"", "a\\",
	} {
		if Right(s) {
			t.Errorf("Right(%q) = true", s)
		}
	}
}

// 4.1: texts of 0 to 24 bytes, and longer ones, of whatever may stand in a name.
func TestRightLong(t *testing.T) {
	for _, whole := range []string{text(100), strings.Repeat("a", 100), strings.Repeat("_", 100), "z" + strings.Repeat("9", 99)} {
		for long := range len(whole) {
			s := whole[:long]
			if got, want := Right(s), 1 <= long && long <= 24; got != want {
				t.Errorf("Right(%q), of %d bytes, = %t", s, long, got)
			}
		}
	}
	for _, long := range []int{256 + 1, 256 + 24, 1 << 16, 1<<16 + 1, 1 << 20} {
		if Right(strings.Repeat("a", long)) {
			t.Errorf("Right of %d bytes = true", long)
		}
	}
	// MaxName is a bound of bytes, not of runes.
	if Right(strings.Repeat("\u00e4", 12)) || Right(strings.Repeat("\u00e4", 24)) {
		t.Error("Right of runes of two bytes = true")
	}
}

// 4.1: each of the 256 bytes first, in the middle and last, of texts of some lengths up to the bound.
func TestRightEachByte(t *testing.T) {
	for b := range 256 {
		c := string([]byte{byte(b)})
		for _, long := range []int{1, 2, 3, 12, 23, 24, 25} {
			for at := range long {
				s := strings.Repeat("a", at) + c + strings.Repeat("a", long-1-at)
				fits := strings.Contains(letters, c) || at > 0 && strings.Contains(digits, c)
				if got, want := Right(s), fits && long <= 24; got != want {
					t.Errorf("Right(%q) = %t", s, got)
				}
			}
		}
	}
}

// 4.1: places in ordinary texts, amidst names, at digits, at points, and at other bytes.
func TestScan(t *testing.T) {
	cases := []struct {
		s        string
		at, want int
	}{
		{"a", 0, 1},
		{"_", 0, 1},
		{"abc", 0, 3},
		{"abc", 1, 3},
		{"abc", 2, 3},
		{"b12 c", 0, 3},
		{"b12 c", 1, 1},
		{"b12 c", 2, 2},
		{"b12 c", 3, 3},
		{"b12 c", 4, 5},
		{"b12c d", 1, 1},
		{"b12c d", 3, 4},
		{"a_1_b", 1, 5},
		{"a_1_b", 2, 2},
		{"a_1_b", 3, 5},
		{"7a", 0, 0},
		{"7a", 1, 2},
		{"p.q", 0, 1},
		{"p.q", 1, 1},
		{"p.q", 2, 3},
		{".a", 0, 0},
		{"..", 1, 1},
		{"func f(%0) {", 0, 4},
		{"func f(%0) {", 4, 4},
		{"func f(%0) {", 5, 6},
		{"func f(%0) {", 6, 6},
		{"func f(%0) {", 8, 8},
		{"aB", 0, 1},
		{"Ba", 0, 0},
		{"Ba", 1, 2},
		{"ab\n", 0, 2},
		{"a\u00e4b", 0, 1},
		{"a\u00e4b", 1, 1},
		{"a\u00e4b", 2, 2},
		{"a\u00e4b", 3, 4},
		{"a\x00b", 0, 1},
	}
	for _, c := range cases {
		if got := Scan(c.s, c.at); got != c.want {
			t.Errorf("Scan(%q, %d) = %d; want %d", c.s, c.at, got, c.want)
		}
	}
}

// 4.1: places below 0, at the end, and beyond it are answered as they are.
func TestScanNoPlace(t *testing.T) {
	for _, s := range []string{"", "a", "abc", "a.b", "0", ".", text(100)} {
		for _, at := range []int{
			math.MinInt64, math.MinInt64 + 1, -1 << 32, -256, -2, -1,
			len(s), len(s) + 1, len(s) + 256, 1 << 31, 1 << 32, math.MaxInt64 - 1, math.MaxInt64,
		} {
			if got := Scan(s, at); got != at {
				t.Errorf("Scan(%q, %d) = %d", s, at, got)
			}
		}
	}
}

// 4.1: bytes are gone through however many there are, though they make no name.
func TestScanLong(t *testing.T) {
	for _, long := range []int{1, 23, 24, 25, 26, 100, 300, 1 << 16, 1 << 20} {
		s := text(long)
		for _, ahead := range []string{"", " ", "0", "%"} {
			for _, behind := range []string{"", ".", " b", "A", "\xff"} {
				if got := Scan(ahead+s+behind, len(ahead)); got != len(ahead)+long {
					t.Errorf("Scan of %d bytes between %q and %q = %d", long, ahead, behind, got)
				}
			}
		}
	}
}

// 4.1: each of the 256 bytes, as the first one, behind another one, and behind 24 others.
func TestScanEachByte(t *testing.T) {
	for b := range 256 {
		c := string([]byte{byte(b)})
		begins := strings.Contains(letters, c)
		stands := begins || strings.Contains(digits, c)
		first, second, last := 1, 2, 25
		if begins {
			first = 4
		}
		if stands {
			second, last = 4, 26
		}
		if got := Scan("."+c+"a0", 1); got != first {
			t.Errorf("Scan of %q first = %d; want %d", c, got, first)
		}
		if got := Scan(".a"+c+"0", 1); got != second {
			t.Errorf("Scan of %q behind a byte = %d; want %d", c, got, second)
		}
		if got := Scan("."+text(24)+c, 1); got != last {
			t.Errorf("Scan of %q behind 24 bytes = %d; want %d", c, got, last)
		}
	}
}

// 4.2: Edge asks nothing of what it is given.
func TestEdge(t *testing.T) {
	cases := [][3]string{
		{"a", "b", "a.b"},
		{"b", "a", "b.a"},
		{"a", "a", "a.a"},
		{"loop", "b12", "loop.b12"},
		{"", "", "."},
		{"a", "", "a."},
		{"", "a", ".a"},
		{".", ".", "..."},
		{"a.b", "c", "a.b.c"},
		{"a", "b.c", "a.b.c"},
		{"0", "A", "0.A"},
		{" ", "\n", " .\n"},
		{"\xff", "\x00", "\xff.\x00"},
		{text(24), text(24), text(24) + "." + text(24)},
		{text(25), text(100), text(25) + "." + text(100)},
	}
	for _, c := range cases {
		if got := Edge(c[0], c[1]); got != c[2] {
			t.Errorf("Edge(%q, %q) = %q; want %q", c[0], c[1], got, c[2])
		}
	}
}

// 4.2: edges' names, up to halves of 24 bytes, are taken apart, and put together as they were.
func TestEnds(t *testing.T) {
	halves := []string{"p", "q", "_", "b0", "loop", "a_b", "_9", "z", text(23), text(24), strings.Repeat("_", 24)}
	for _, from := range halves {
		for _, to := range halves {
			s := from + "." + to
			if a, b, ok := Ends(s); a != from || b != to || !ok {
				t.Errorf("Ends(%q) = %q, %q, %t", s, a, b, ok)
			}
			if a, b, ok := Ends(Edge(from, to)); a != from || b != to || !ok {
				t.Errorf("Ends(Edge(%q, %q)) = %q, %q, %t", from, to, a, b, ok)
			}
		}
	}
}

// notEdges are texts that are no edges' names.
func notEdges() []string {
	long := text(25)
	return []string{
		"", "a", "ab", "_", text(24), long, text(49), // no point
		"a.b.c", "a..b", "a.b.", ".a.b", "...", "a.b.c.d", // more than one
		".", ".a", "a.", "..", "..a", "a..", // a point first and last
		"0.a", "a.0", "0.0", "9a.b", "b.9a", "1.2", "A.b", "a.B", "a .b", "a. b", " a.b", "a.b ", "a.b\n", "\na.b",
		"a-b.c", "a.b-c", "a\x00.b", "a.\x00", "a,b", "a:b", "\u00e4.a", "a.\u00e4", "\xff.a", "a.\xff", "a\u3002b",
		long + ".a", "a." + long, long + "." + long, text(24) + "." + long, long + "." + text(24),
		text(1000) + ".a", "a." + text(1000), text(24) + "." + text(24) + ".", text(24) + "." + text(24) + "." + text(24),
	}
}

// 4.2: of what is no edge's name nothing is told.
func TestEndsOfNone(t *testing.T) {
	for _, s := range notEdges() {
		if from, to, ok := Ends(s); from != "" || to != "" || ok {
			t.Errorf("Ends(%q) = %q, %q, %t", s, from, to, ok)
		}
	}
}

// 4.2: each of the 256 bytes in the place of the point, and first and last in either half.
func TestEndsEachByte(t *testing.T) {
	for b := range 256 {
		c := string([]byte{byte(b)})
		for _, s := range []string{
			"a" + c + "b", c + ".b", c + "a.b", "a" + c + ".b", "a." + c, "a." + c + "b", "a.b" + c,
			text(24) + c + text(24), text(23) + c + "." + text(24), text(24) + "." + text(23) + c,
		} {
			tryText(t, s)
		}
	}
}

// 4.2: Label of names, of edges' names, and of neither, both ways.
func TestLabel(t *testing.T) {
	for _, s := range []string{"a", "_", "b0", "loop", text(24)} {
		if !Label(s, false) {
			t.Errorf("Label(%q, false) = false", s)
		}
		if Label(s, true) {
			t.Errorf("Label(%q, true) = true", s)
		}
	}
	for _, s := range []string{"a.b", "_._", "b0.b1", "a.a", text(24) + "." + text(24)} {
		if Label(s, false) {
			t.Errorf("Label(%q, false) = true", s)
		}
		if !Label(s, true) {
			t.Errorf("Label(%q, true) = false", s)
		}
	}
	for _, s := range []string{
		"", ".", "a.", ".a", "0", "0a", "A", "a.b.c", "a b", "a.0", "0.a", "a\n", "\xff", text(25), "a." + text(25), text(25) + ".a",
	} {
		if Label(s, false) || Label(s, true) {
			t.Errorf("Label(%q): %t, %t", s, Label(s, false), Label(s, true))
		}
	}
	for _, s := range notEdges() {
		if Label(s, true) {
			t.Errorf("Label(%q, true) = true", s)
		}
	}
}

// numbered are the names of a stem and each of the numbers from one up to ahead of another one.
func numbered(stem string, from, to int) []string {
	var out []string
	for n := from; n < to; n++ {
		out = append(out, fmt.Sprintf("%s%d", stem, n))
	}
	return out
}

type freshCase struct {
	stem string
	used []string
	want string
}

func tryFresh(t *testing.T, cases []freshCase) {
	t.Helper()
	for _, c := range cases {
		if got := Fresh(c.stem, c.used...); got != c.want {
			t.Errorf("Fresh(%q, %.90q) = %q; want %q", c.stem, c.used, got, c.want)
		}
	}
}

// 4.3: used ones in any number and any order, with gaps, twice, and of one digit and of two.
func TestFresh(t *testing.T) {
	tryFresh(t, []freshCase{
		{"b", nil, "b0"},
		{"b", []string{}, "b0"},
		{"b", []string{"b0", "b2"}, "b1"},
		{"b", []string{"b2", "b0"}, "b1"},
		{"b", []string{"b1"}, "b0"},
		{"b", []string{"b0"}, "b1"},
		{"b", []string{"b0", "b0"}, "b1"},
		{"b", []string{"b0", "b0", "b0", "b1", "b1"}, "b2"},
		{"b", []string{"b0", "b1", "b0"}, "b2"},
		{"b", []string{"b2", "b1", "b0"}, "b3"},
		{"b", []string{"b1", "b2", "b3"}, "b0"},
		{"b", []string{"b0", "b1", "b3", "b4", "b6"}, "b2"},
		{"b", numbered("b", 0, 9), "b9"},
		{"b", numbered("b", 0, 10), "b10"},
		{"b", numbered("b", 0, 11), "b11"},
		{"b", numbered("b", 0, 12), "b12"},
		{"b", numbered("b", 1, 12), "b0"},
		{"b", append(numbered("b", 0, 9), "b10"), "b9"},
		{"b", append(numbered("b", 0, 10), "b11"), "b10"},
		{"b", numbered("b", 0, 99), "b99"},
		{"b", numbered("b", 0, 100), "b100"},
		{"_", []string{"_0"}, "_1"},
		{"b1", []string{"b10"}, "b11"},
		{"b1", []string{"b1", "b11"}, "b10"},
		{"b0", nil, "b00"},
	})
	if got := Fresh("b"); got != "b0" {
		t.Errorf("Fresh of b, and nothing used, = %q", got)
	}
	if got := Fresh("b", "b0", "b2"); got != "b1" {
		t.Errorf("Fresh of b, where b0 and b2 are used, = %q", got)
	}
}

// 4.3: what is used is held against the names as it is, whether it is a name or not.
func TestFreshOfOthers(t *testing.T) {
	tryFresh(t, []freshCase{
		{"b", []string{"b"}, "b0"},
		{"b", []string{"", "0", "b", "a0", "bb0", "b00", "b01", "b-0", "b+0", "B0", " b0", "b0 ", "b0\n", "b0.b0", "b\xb0"}, "b0"},
		{"b", []string{"b0", "b01", "b001", "b1 ", "b1.b1", "c1"}, "b1"},
		{"b", []string{"b10", "b100", "b20"}, "b0"},
		{"a", []string{"b0", "b1"}, "a0"},
		{"ab", []string{"a0", "b0", "ab1"}, "ab0"},
	})
}

// 4.3: stems with which no number makes a name, whatever is used.
func TestFreshOfNoNames(t *testing.T) {
	for _, stem := range []string{
		"", "0", "1", "9a", "0_", "A", "aB", "a.b", ".", "a.", ".a", "a b", " a", "a ", "a-", "-", "a\n", "\x00", "\xff", "a\u00e4", "%",
	} {
		tryFresh(t, []freshCase{
			{stem, nil, ""},
			{stem, []string{"b0"}, ""},
			{stem, []string{""}, ""},
			{stem, []string{stem}, ""},
			{stem, numbered(stem, 0, 1), ""},
			{stem, numbered(stem, 0, 12), ""},
		})
	}
}

// 4.3: stems so long that a number more makes it no name, at once, or behind the last number of one digit, or of two.
func TestFreshLong(t *testing.T) {
	for _, whole := range []string{text(2000), strings.Repeat("_", 2000)} {
		for _, long := range []int{24, 25, 26, 100, 2000} {
			stem := whole[:long]
			tryFresh(t, []freshCase{
				{stem, nil, ""},
				{stem, numbered(stem, 0, 1), ""},
				{stem, numbered(stem, 0, 20), ""},
				{stem, []string{stem}, ""},
			})
		}
		s23, s22, s21 := whole[:23], whole[:22], whole[:21]
		tryFresh(t, []freshCase{
			{s23, nil, s23 + "0"},
			{s23, numbered(s23, 0, 9), s23 + "9"},
			{s23, numbered(s23, 0, 10), ""},
			{s23, numbered(s23, 0, 11), ""},
			{s23, numbered(s23, 1, 11), s23 + "0"},
			{s22, numbered(s22, 0, 10), s22 + "10"},
			{s22, numbered(s22, 0, 99), s22 + "99"},
			{s22, numbered(s22, 0, 100), ""},
			{s22, numbered(s22, 0, 101), ""},
			{s21, numbered(s21, 0, 100), s21 + "100"},
			{s21, numbered(s21, 0, 1000), ""},
		})
	}
}

// freshModel is what the document says Fresh answers, worked out another way.
func freshModel(stem string, used []string) string {
	for n := 0; ; n++ {
		s := fmt.Sprintf("%s%d", stem, n)
		if !isName.MatchString(s) {
			return ""
		}
		if !slices.Contains(used, s) {
			return s
		}
	}
}

// 4.3: all choices of used ones among the first twelve, for stems up to the bound.
func TestFreshOfAllChoices(t *testing.T) {
	for _, stem := range []string{"b", text(22), text(23), text(24)} {
		names := numbered(stem, 0, 12)
		for choice := range 1 << len(names) {
			var used []string
			for n, s := range names {
				if choice>>n&1 == 1 {
					used = append(used, s)
				}
			}
			want := freshModel(stem, used)
			if got := Fresh(stem, used...); got != want {
				t.Fatalf("Fresh(%q, %q) = %q; want %q", stem, used, got, want)
			}
			slices.Reverse(used)
			if got := Fresh(stem, used...); got != want {
				t.Fatalf("Fresh(%q, %q) = %q; want %q", stem, used, got, want)
			}
		}
	}
}

// 4.3, P0: very many used ones, some of which are long texts.
func TestFreshOfMany(t *testing.T) {
	const many = 300_000
	used := append(numbered("b", 0, many), strings.Repeat("b0", 1<<16))
	slices.Reverse(used)
	if got, want := Fresh("b", used...), fmt.Sprintf("b%d", many); got != want {
		t.Errorf("Fresh where %d are used = %q; want %q", many, got, want)
	}
	used = slices.DeleteFunc(used, func(s string) bool { return s == "b123456" })
	if got := Fresh("b", used...); got != "b123456" {
		t.Errorf("Fresh where b123456 alone is not used = %q", got)
	}
}

// 4.3, R3: the list is left as it is, and what lies behind its length is not read.
func TestFreshLeavesItsList(t *testing.T) {
	room := []string{"b2", "b0", "b0", "b1", "b3"}
	if got := Fresh("b", room[:3]...); got != "b1" {
		t.Errorf("Fresh of a part of a list = %q", got)
	}
	if want := []string{"b2", "b0", "b0", "b1", "b3"}; !slices.Equal(room, want) {
		t.Errorf("the list became %q", room)
	}
	// What was used in one call is not in the next one.
	if got := Fresh("b"); got != "b0" {
		t.Errorf("Fresh of nothing used = %q", got)
	}
}

// tryText holds what is told of a text against models.
func tryText(t *testing.T, s string) {
	t.Helper()
	name := isName.MatchString(s)
	if got := Right(s); got != name {
		t.Errorf("Right(%q) = %t", s, got)
	}
	if got := Label(s, false); got != name {
		t.Errorf("Label(%q, false) = %t", s, got)
	}
	halves := isEdge.FindStringSubmatch(s)
	edge := halves != nil
	if !edge {
		halves = []string{s, "", ""}
	}
	if from, to, ok := Ends(s); from != halves[1] || to != halves[2] || ok != edge {
		t.Errorf("Ends(%q) = %q, %q, %t; want %q, %t", s, from, to, ok, halves[1:], edge)
	}
	if got := Label(s, true); got != edge {
		t.Errorf("Label(%q, true) = %t", s, got)
	}
	for at := -1; at <= len(s)+1; at++ {
		want := at
		if 0 <= at && at < len(s) {
			want += len(comes.FindString(s[at:]))
		}
		if got := Scan(s, at); got != want {
			t.Errorf("Scan(%q, %d) = %d; want %d", s, at, got, want)
		}
	}
	used := append(numbered(s, 0, 3), s)
	if got, want := Fresh(s, used...), freshModel(s, used); got != want {
		t.Errorf("Fresh(%q, %q) = %q; want %q", s, used, got, want)
	}
}

// 4.1 to 4.3: all short texts of some bytes, alone and where they lead up to the bound.
func TestAllShortTexts(t *testing.T) {
	const some = "az_09.A\xe1"
	var grow func(s string, left int)
	grow = func(s string, left int) {
		tryText(t, s)
		if left == 0 {
			return
		}
		for i := range len(some) {
			grow(s+some[i:i+1], left-1)
		}
	}
	grow("", 5)
	grow(text(22), 4)
	grow("a."+text(22), 3)
	grow(text(23)+"."+text(23), 3)
}

// 4.1 to 4.3: any bytes.
func FuzzText(f *testing.F) {
	for _, s := range []string{"", "a", "p.q", "0a", "a.b.c", "b12 c", "\xff", text(24), text(25), text(24) + "." + text(24)} {
		f.Add(s)
	}
	f.Fuzz(tryText)
}
