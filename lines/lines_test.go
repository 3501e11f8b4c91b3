package lines

import (
	"fmt"
	"math"
	"slices"
	"strings"
	"testing"
)

const (
	least = math.MinInt64
	most  = math.MaxInt64
)

// far are numbers that no text here has a line, a column or a place of; some of them go round to small ones if one is
// added to them or taken from them, or if they are cut to 32 bits.
func far() []int {
	return []int{
		least, least + 1, least + 2, -1 << 32, -1<<32 + 1, -1 << 31, -1000000, -2, -1,
		5000000, 1<<31 - 1, 1 << 31, 1 << 32, 1<<32 + 1, 1<<32 + 2, 1 << 62, most - 2, most - 1, most,
	}
}

// texts are those that the promises name: empty, of one line and of several, with a byte 10 at each kind of place, and
// with any other bytes.
func texts() []string {
	return []string{
		"", "a", "ab", "a b c", "ab\ncd", "ab\ncd\nef", "one\ntwo two\n\nfour",
		"\n", "\n\n", "\n\n\n", "\na", "a\n", "\na\n", "a\n\n", "\n\na", "a\n\nb", "a\n\n\nb\n\n", "\nab\n\ncd\n",
		"\x00", "a\x00b\n\x00", "\t", "\ta\n\t\tb\tc\n\t", "\r", "a\r\nb\r\n", "\r\r\n\n\r", "\v\f\n\x1c\x1e\x85",
		"\x80", "\xff", "\xff\n\xff", "\x80\x80\n\x80", "\xc3", "\xc3\n", "\xc3\n\xa4", "\xe2\x80\n\xa8", "\xf0\x9f\x98\n",
		"\u00e4", "\u00e4\n\u00e4", "a\u00e4b\n\t\u20ac\tc\n\U0001f600", "\u2028\u2029\u0085\n\ufffd",
		"\xf0", "\xf0\x9f", "\xf0\x9f\x98", "a\n\xe2\x82", "\n\xf0\x9f\x98", "\xed\xa0\x80\n\xf4\x90\x80\x80",
		// These are near a byte 10: letters whose code or whose last byte is like it, and codings of it that are too long.
		"\u010a\n\u0a0a", "\u2c0a", "\u4e8a", "\xc0\x8a", "\xe0\x80\x8a\n", "\xf0\x80\x80\x8a", "\x8a\n\x8a", "\\n\n\\n",
		strings.Repeat("\n", 40), strings.Repeat("ab\n", 12), strings.Repeat("x", 300), strings.Repeat("\u20ac\t", 50) + "\n",
	}
}

// rows is a text's lines, worked out another way.
func rows(text string) []string {
	return strings.Split(text, "\n")
}

// spot is what the promise says Spot answers, worked out another way.
func spot(text string, at int) (int, int) {
	if at < 0 || at > len(text) {
		return 0, 0
	}
	ahead := text[:at]
	return strings.Count(ahead, "\n") + 1, at - strings.LastIndexByte(ahead, '\n')
}

// mark is what the promise says Mark answers, worked out another way.
func mark(text string, at int) string {
	line, col := spot(text, at)
	if line == 0 {
		return ""
	}
	row := rows(text)[line-1]
	var fill string
	for i := range col - 1 {
		if row[i] == 9 {
			fill += "\t"
		} else {
			fill += " "
		}
	}
	return fmt.Sprintf("%d:%d\n%s\n%s^\n", line, col, row, fill)
}

// tryLines holds Count, Starts and Line of a text against the model.
func tryLines(t *testing.T, text string) {
	t.Helper()
	want := rows(text)
	if got := Count(text); got != len(want) {
		t.Fatalf("Count(%.60q) = %d; want %d", text, got, len(want))
	}
	starts := Starts(text)
	if len(starts) != len(want) {
		t.Fatalf("Starts(%.60q) has %d; want %d", text, len(starts), len(want))
	}
	start := 0
	for i, row := range want {
		if starts[i] != start {
			t.Fatalf("Starts(%.60q)[%d] = %d; want %d", text, i, starts[i], start)
		}
		start += len(row) + 1
		if got, ok := Line(text, i+1); got != row || !ok {
			t.Fatalf("Line(%.60q, %d) = %q, %t; want %q, true", text, i+1, got, ok, row)
		}
	}
	for _, n := range append(far(), 0, len(want)+1, len(want)+2, -len(want)) {
		if got, ok := Line(text, n); got != "" || ok {
			t.Fatalf("Line(%.60q, %d) = %q, %t; want none", text, n, got, ok)
		}
	}
}

// tryPlaces holds Spot and Mark of a text's places, and of some that it has not, against the model.
func tryPlaces(t *testing.T, text string) {
	t.Helper()
	places := append(far(), len(text)+1, len(text)+2, -len(text)-1)
	for at := range len(text) + 1 {
		places = append(places, at)
	}
	for _, at := range places {
		line, col := Spot(text, at)
		if wantLine, wantCol := spot(text, at); line != wantLine || col != wantCol {
			t.Fatalf("Spot(%q, %d) = %d, %d; want %d, %d", text, at, line, col, wantLine, wantCol)
		}
		if got, want := Mark(text, at), mark(text, at); got != want {
			t.Fatalf("Mark(%q, %d) = %q; want %q", text, at, got, want)
		}
	}
}

// tryColumns holds At of a text's lines and columns, and of some that it has not, against the model.
func tryColumns(t *testing.T, text string) {
	t.Helper()
	places := map[[2]int]int{}
	widest := 0
	for at := range len(text) + 1 {
		line, col := spot(text, at)
		places[[2]int{line, col}] = at
		widest = max(widest, col)
	}
	numbers := far()
	for n := range max(len(rows(text)), widest) + 3 {
		numbers = append(numbers, n)
	}
	for _, line := range numbers {
		for _, col := range numbers {
			want, there := places[[2]int{line, col}]
			if got, ok := At(text, line, col); got != want || ok != there {
				t.Fatalf("At(%q, %d, %d) = %d, %t; want %d, %t", text, line, col, got, ok, want, there)
			}
		}
	}
}

// tryText holds all calls against the model.
func tryText(t *testing.T, text string) {
	t.Helper()
	tryLines(t, text)
	tryPlaces(t, text)
	tryColumns(t, text)
}

// The chapter's example.
func TestExample(t *testing.T) {
	if line, col := Spot("ab\ncd", 4); line != 2 || col != 2 {
		t.Errorf("Spot = %d, %d", line, col)
	}
	if got := Mark("ab\ncd", 4); got != "2:2\ncd\n ^\n" {
		t.Errorf("Mark = %q", got)
	}
}

// 6.1: how many lines there are, and where they begin, written out.
func TestStarts(t *testing.T) {
	cases := []struct {
		text string
		want []int
	}{
		{"", []int{0}},
		{"a", []int{0}},
		{"abc", []int{0}},
		{"\n", []int{0, 1}},
		{"a\n", []int{0, 2}},
		{"\na", []int{0, 1}},
		{"\n\n\n", []int{0, 1, 2, 3}},
		{"ab\ncd", []int{0, 3}},
		{"ab\n\ncd\n", []int{0, 3, 4, 7}},
		{"a\r\nb\rc", []int{0, 3}},
		{"\x00\n\x00", []int{0, 2}},
		{"\xff\n\xff", []int{0, 2}},
		{"\xc3\n\xa4", []int{0, 2}},
		{"\u00e4\n\u20ac\nx", []int{0, 3, 7}},
		{"\xf0\x9f\x98\n\xf0\x9f", []int{0, 4}},
		{"\xc0\x8a\u010a\u2028\u0085", []int{0}},
	}
	for _, c := range cases {
		if got := Starts(c.text); !slices.Equal(got, c.want) {
			t.Errorf("Starts(%q) = %d; want %d", c.text, got, c.want)
		}
		if got := Count(c.text); got != len(c.want) {
			t.Errorf("Count(%q) = %d; want %d", c.text, got, len(c.want))
		}
	}
}

// 6.1: lines by their numbers, written out.
func TestLine(t *testing.T) {
	cases := []struct {
		text string
		n    int
		want string
		ok   bool
	}{
		{"", 1, "", true}, {"", 0, "", false}, {"", -1, "", false}, {"", 2, "", false},
		{"abc", 1, "abc", true}, {"abc", 0, "", false}, {"abc", 2, "", false},
		{"\n", 1, "", true}, {"\n", 2, "", true}, {"\n", 3, "", false},
		{"ab\ncd\nef", 1, "ab", true}, {"ab\ncd\nef", 2, "cd", true}, {"ab\ncd\nef", 3, "ef", true},
		{"ab\ncd\nef", 4, "", false}, {"ab\ncd\nef", 0, "", false}, {"ab\ncd\nef", -1, "", false}, {"ab\ncd\nef", -3, "", false},
		{"ab\n", 1, "ab", true}, {"ab\n", 2, "", true}, {"ab\n", 3, "", false},
		{"a\n\nb", 2, "", true}, {"a\n\nb", 3, "b", true},
		{"a\r\n\tb\r", 1, "a\r", true}, {"a\r\n\tb\r", 2, "\tb\r", true},
		{"\xe2\x82\n\xac\x00", 1, "\xe2\x82", true}, {"\xe2\x82\n\xac\x00", 2, "\xac\x00", true},
		{"ab\ncd", least, "", false}, {"ab\ncd", least + 1, "", false}, {"ab\ncd", most, "", false}, {"ab\ncd", 1<<32 + 1, "", false},
	}
	for _, c := range cases {
		if got, ok := Line(c.text, c.n); got != c.want || ok != c.ok {
			t.Errorf("Line(%q, %d) = %q, %t; want %q, %t", c.text, c.n, got, ok, c.want, c.ok)
		}
	}
}

// 6.2: places, written out: those of bytes 10, behind them, at the end, and such as there are none of.
func TestSpot(t *testing.T) {
	cases := []struct {
		text          string
		at, line, col int
	}{
		{"", 0, 1, 1}, {"", 1, 0, 0}, {"", -1, 0, 0}, {"", least, 0, 0}, {"", most, 0, 0},
		{"ab\ncd", 0, 1, 1}, {"ab\ncd", 1, 1, 2}, {"ab\ncd", 2, 1, 3}, {"ab\ncd", 3, 2, 1}, {"ab\ncd", 4, 2, 2},
		{"ab\ncd", 5, 2, 3}, {"ab\ncd", 6, 0, 0}, {"ab\ncd", -1, 0, 0}, {"ab\ncd", least, 0, 0}, {"ab\ncd", most, 0, 0},
		{"ab\ncd", 1 << 32, 0, 0},
		{"\n", 0, 1, 1}, {"\n", 1, 2, 1}, {"\n", 2, 0, 0},
		{"\n\n\n", 0, 1, 1}, {"\n\n\n", 1, 2, 1}, {"\n\n\n", 2, 3, 1}, {"\n\n\n", 3, 4, 1}, {"\n\n\n", 4, 0, 0},
		{"ab\n", 2, 1, 3}, {"ab\n", 3, 2, 1}, {"ab\n", 4, 0, 0},
		{"\u20ac\u00e4\nx", 1, 1, 2}, {"\u20ac\u00e4\nx", 3, 1, 4}, {"\u20ac\u00e4\nx", 5, 1, 6}, {"\u20ac\u00e4\nx", 6, 2, 1},
		{"\xe2\x82\n\xff", 2, 1, 3}, {"\xe2\x82\n\xff", 3, 2, 1}, {"\xe2\x82\n\xff", 4, 2, 2},
		{"a\r\nb", 2, 1, 3}, {"a\r\nb", 3, 2, 1}, {"\t\x00\t", 2, 1, 3},
	}
	for _, c := range cases {
		if line, col := Spot(c.text, c.at); line != c.line || col != c.col {
			t.Errorf("Spot(%q, %d) = %d, %d; want %d, %d", c.text, c.at, line, col, c.line, c.col)
		}
	}
}

// 6.2: lines and columns, written out: the column behind a line's last byte has a place, the one behind that none.
func TestAt(t *testing.T) {
	cases := []struct {
		text      string
		line, col int
		at        int
		ok        bool
	}{
		{"", 1, 1, 0, true}, {"", 1, 2, 0, false}, {"", 1, 0, 0, false}, {"", 0, 1, 0, false}, {"", 2, 1, 0, false}, {"", 0, 0, 0, false},
		{"ab\ncd", 1, 1, 0, true}, {"ab\ncd", 1, 2, 1, true}, {"ab\ncd", 1, 3, 2, true}, {"ab\ncd", 1, 4, 0, false},
		{"ab\ncd", 2, 1, 3, true}, {"ab\ncd", 2, 2, 4, true}, {"ab\ncd", 2, 3, 5, true}, {"ab\ncd", 2, 4, 0, false},
		{"ab\ncd", 0, 1, 0, false}, {"ab\ncd", -1, 1, 0, false}, {"ab\ncd", 3, 1, 0, false}, {"ab\ncd", 0, 0, 0, false},
		{"ab\ncd", 2, 0, 0, false}, {"ab\ncd", 2, -1, 0, false}, {"ab\ncd", 1, 0, 0, false}, {"ab\ncd", 1, -1, 0, false},
		{"ab\ncd", least, 1, 0, false}, {"ab\ncd", most, 1, 0, false}, {"ab\ncd", 2, least, 0, false}, {"ab\ncd", 2, most, 0, false},
		{"ab\ncd", least, least, 0, false}, {"ab\ncd", most, most, 0, false}, {"ab\ncd", 2, least + 1, 0, false},
		{"\n", 1, 1, 0, true}, {"\n", 1, 2, 0, false}, {"\n", 2, 1, 1, true}, {"\n", 2, 2, 0, false}, {"\n", 3, 1, 0, false},
		{"ab\n", 1, 3, 2, true}, {"ab\n", 1, 4, 0, false}, {"ab\n", 2, 1, 3, true}, {"ab\n", 2, 2, 0, false},
		{"\u20ac\n\u00e4", 1, 4, 3, true}, {"\u20ac\n\u00e4", 1, 5, 0, false}, {"\u20ac\n\u00e4", 2, 2, 5, true},
		{"\u20ac\n\u00e4", 2, 3, 6, true}, {"\u20ac\n\u00e4", 2, 4, 0, false},
	}
	for _, c := range cases {
		if at, ok := At(c.text, c.line, c.col); at != c.at || ok != c.ok {
			t.Errorf("At(%q, %d, %d) = %d, %t; want %d, %t", c.text, c.line, c.col, at, ok, c.at, c.ok)
		}
	}
}

// 6.2: marks, written out.
func TestMark(t *testing.T) {
	nine, ten := strings.Repeat("\n", 8), strings.Repeat("\n", 9)
	cases := []struct {
		text string
		at   int
		want string
	}{
		{"", 0, "1:1\n\n^\n"},
		{"ab\ncd\nef", 0, "1:1\nab\n^\n"},
		{"ab\ncd\nef", 1, "1:2\nab\n ^\n"},
		{"ab\ncd\nef", 2, "1:3\nab\n  ^\n"},
		{"ab\ncd\nef", 3, "2:1\ncd\n^\n"},
		{"ab\ncd\nef", 5, "2:3\ncd\n  ^\n"},
		{"ab\ncd\nef", 7, "3:2\nef\n ^\n"},
		{"ab\ncd\nef", 8, "3:3\nef\n  ^\n"},
		{"a\n\nb", 2, "2:1\n\n^\n"},
		{"a\n", 2, "2:1\n\n^\n"},
		{"\n", 0, "1:1\n\n^\n"},
		{"\n", 1, "2:1\n\n^\n"},
		{"\ta\tb", 0, "1:1\n\ta\tb\n^\n"},
		{"\ta\tb", 1, "1:2\n\ta\tb\n\t^\n"},
		{"\ta\tb", 2, "1:3\n\ta\tb\n\t ^\n"},
		{"\ta\tb", 3, "1:4\n\ta\tb\n\t \t^\n"},
		{"x\n\t\ty", 4, "2:3\n\t\ty\n\t\t^\n"},
		{"\u20acz", 3, "1:4\n\u20acz\n   ^\n"},
		{"\u20acz", 1, "1:2\n\u20acz\n ^\n"},
		{"\u00e4\t\U0001f600\tz", 8, "1:9\n\u00e4\t\U0001f600\tz\n  \t    \t^\n"},
		{"\xff\x80\xe2\x82z", 4, "1:5\n\xff\x80\xe2\x82z\n    ^\n"},
		{"a\x00\rb", 3, "1:4\na\x00\rb\n   ^\n"},
		{"a\r\nb", 2, "1:3\na\r\n  ^\n"},
		{"abcdefghi", 8, "1:9\nabcdefghi\n        ^\n"},
		{"abcdefghi", 9, "1:10\nabcdefghi\n         ^\n"},
		{nine + "x", 8, "9:1\nx\n^\n"},
		{ten + "x", 9, "10:1\nx\n^\n"},
		{ten + "x", 10, "10:2\nx\n ^\n"},
		{ten + strings.Repeat("y", 100), 109, "10:101\n" + strings.Repeat("y", 100) + "\n" + strings.Repeat(" ", 100) + "^\n"},
	}
	for _, c := range cases {
		if got := Mark(c.text, c.at); got != c.want {
			t.Errorf("Mark(%q, %d) = %q; want %q", c.text, c.at, got, c.want)
		}
	}
}

// 6.2: of places that there are none of, the mark is empty.
func TestMarkOfNone(t *testing.T) {
	for _, text := range texts() {
		for _, at := range append(far(), len(text)+1, len(text)+2, -len(text)-1) {
			if got := Mark(text, at); got != "" {
				t.Errorf("Mark(%q, %d) = %q; want nothing", text, at, got)
			}
		}
	}
}

// 6.1, 6.2: all calls, of each kind of text.
func TestTexts(t *testing.T) {
	for _, text := range texts() {
		tryText(t, text)
	}
}

// 6.1, 6.2: all short texts of some bytes: ends of lines amidst letters that are whole, cut off, and none.
func TestShortTexts(t *testing.T) {
	var try func(text string, more int)
	try = func(text string, more int) {
		tryText(t, text)
		if more == 0 {
			return
		}
		for _, c := range []byte("\n\ta\xe2\x82\xac") {
			try(text+string([]byte{c}), more-1)
		}
	}
	try("", 4)
}

// 6.1, 6.2: of all bytes just one ends a line, and just one stays in a mark.
func TestEachByte(t *testing.T) {
	for b := range 256 {
		one := string([]byte{byte(b)})
		for _, text := range []string{one, one + "\n", "\n" + one, "a" + one + "b", one + one + "\n" + one + "\t", "\xe2" + one, "\xf0\x9f" + one + "\n"} {
			tryText(t, text)
		}
		ends := strings.Count(one, "\n")
		if got := Count("a" + one + "b"); got != 1+ends {
			t.Errorf("Count with the byte %d = %d", b, got)
		}
	}
}

// 6.1, 6.2: a byte 10 behind each two bytes that are no whole letter, or one, or more.
func TestEndBehindEachPair(t *testing.T) {
	for b := range 256 {
		for c := range 256 {
			text := string([]byte{byte(b), byte(c), '\n', byte(c), byte(b)})
			tryLines(t, text)
			if line, col := Spot(text, 3); line != strings.Count(text[:3], "\n")+1 || col != 1 {
				t.Fatalf("Spot(%q, 3) = %d, %d", text, line, col)
			}
		}
	}
}

// 6.2: each place of a text is that of its line and its column, and each line begins at column 1.
func TestThereAndBack(t *testing.T) {
	for _, text := range texts() {
		for at := range len(text) + 1 {
			line, col := Spot(text, at)
			if back, ok := At(text, line, col); back != at || !ok {
				t.Errorf("At(Spot(%q, %d)) = %d, %t", text, at, back, ok)
			}
		}
		for i, start := range Starts(text) {
			if line, col := Spot(text, start); line != i+1 || col != 1 {
				t.Errorf("Spot(%q, %d) = %d, %d; want %d, 1", text, start, line, col, i+1)
			}
		}
	}
}

// 6.1, R3: what is done to a list that Starts gave changes nothing that is asked later, nor another list.
func TestStartsIsNew(t *testing.T) {
	for _, text := range texts() {
		first, second := Starts(text), Starts(text)
		want := slices.Clone(second)
		for i := range first[:cap(first)] {
			first[:cap(first)][i] = -7
		}
		_ = append(first, 99)
		if !slices.Equal(second, want) {
			t.Errorf("another list of %q became %d", text, second)
		}
		if again := Starts(text); !slices.Equal(again, want) {
			t.Errorf("Starts(%q) became %d", text, again)
		}
		tryLines(t, text)
	}
}

// 6.1, 6.2, P0: very many lines.
func TestManyLines(t *testing.T) {
	const many = 1000000
	text := strings.Repeat("a\n", many)
	starts := Starts(text)
	if Count(text) != many+1 || len(starts) != many+1 {
		t.Fatalf("Count = %d, Starts has %d", Count(text), len(starts))
	}
	for i, start := range starts {
		if start != 2*i {
			t.Fatalf("Starts[%d] = %d", i, start)
		}
	}
	if line, col := Spot(text, 2*many-1); line != many || col != 2 {
		t.Errorf("Spot = %d, %d", line, col)
	}
	if at, ok := At(text, many+1, 1); at != 2*many || !ok {
		t.Errorf("At = %d, %t", at, ok)
	}
	if at, ok := At(text, many+2, 1); at != 0 || ok {
		t.Errorf("At = %d, %t", at, ok)
	}
	if got := Mark(text, 2*many-2); got != "1000000:1\na\n^\n" {
		t.Errorf("Mark = %q", got)
	}
	if got, ok := Line(text, many+1); got != "" || !ok {
		t.Errorf("Line = %q, %t", got, ok)
	}
	if got, ok := Line(text, many+2); got != "" || ok {
		t.Errorf("Line = %q, %t", got, ok)
	}
}

// 6.1, 6.2, P0: a very long line.
func TestLongLine(t *testing.T) {
	const wide = 1 << 20
	row := strings.Repeat("\t\xffz\x00", wide/4)
	text := "ahead\n" + row + "\nbehind"
	if got, ok := Line(text, 2); got != row || !ok {
		t.Errorf("Line has %d bytes, %t", len(got), ok)
	}
	if line, col := Spot(text, 6+wide); line != 2 || col != wide+1 {
		t.Errorf("Spot = %d, %d", line, col)
	}
	if at, ok := At(text, 2, wide+1); at != 6+wide || !ok {
		t.Errorf("At = %d, %t", at, ok)
	}
	if at, ok := At(text, 2, wide+2); at != 0 || ok {
		t.Errorf("At = %d, %t", at, ok)
	}
	want := "2:1048577\n" + row + "\n" + strings.Repeat("\t   ", wide/4) + "^\n"
	if Mark(text, 6+wide) != want {
		t.Error("Mark is another one")
	}
}

// 6.1, 6.2: any bytes.
func FuzzLines(f *testing.F) {
	for _, text := range texts() {
		f.Add(text)
	}
	f.Fuzz(func(t *testing.T, text string) {
		// At is asked of all pairs of lines and columns: of a long text these are too many.
		if len(text) > 50 {
			text = text[:50]
		}
		tryText(t, text)
	})
}
