package deci

import (
	"math"
	"math/big"
	"regexp"
	"strconv"
	"strings"
	"testing"

	"dyehouse/api"
)

const (
	least = math.MinInt64
	most  = math.MaxInt64
)

// numbers are 0, small ones, all those beside a power of 10 or of 2, and the ends, of both signs.
func numbers() []int {
	list := []int{least, least + 1, least + 2, most - 2, most - 1, most}
	for n := -1234; n <= 1234; n++ {
		list = append(list, n)
	}
	beside := func(n int) {
		list = append(list, n-1, n, n+1, -n-1, -n, -n+1)
	}
	ten := 1
	for range 18 {
		ten *= 10
		beside(ten)
		beside(ten / 10 * 37)
	}
	for bit := range 62 {
		beside(1 << bit)
	}
	return list
}

// 2.1: texts that are written out here.
func TestPut(t *testing.T) {
	cases := []struct {
		n    int
		want string
	}{
		{0, "0"}, {1, "1"}, {-1, "-1"}, {7, "7"}, {9, "9"}, {-9, "-9"}, {10, "10"}, {-10, "-10"}, {-40, "-40"},
		{99, "99"}, {100, "100"}, {-100, "-100"}, {1020304050, "1020304050"}, {-908070605, "-908070605"},
		{1<<31 - 1, "2147483647"}, {1 << 31, "2147483648"}, {-1 << 31, "-2147483648"}, {1 << 32, "4294967296"},
		{1e18, "1000000000000000000"}, {-1e18, "-1000000000000000000"}, {1e18 - 1, "999999999999999999"},
		{most - 1, "9223372036854775806"}, {most, "9223372036854775807"},
		{least + 1, "-9223372036854775807"}, {least, "-9223372036854775808"},
	}
	for _, c := range cases {
		if got := Put(c.n); got != c.want {
			t.Errorf("Put(%d) = %q; want %q", c.n, got, c.want)
		}
		if got := Long(c.n); got != len(c.want) {
			t.Errorf("Long(%d) = %d; want %d", c.n, got, len(c.want))
		}
	}
}

// 2.1: the texts, and how long they are, of many numbers are those that the library tells.
func TestPutAgainstModel(t *testing.T) {
	for _, n := range numbers() {
		want := strconv.Itoa(n)
		if got := Put(n); got != want {
			t.Errorf("Put(%d) = %q; want %q", n, got, want)
		}
		if got := Long(n); got != len(want) {
			t.Errorf("Long(%d) = %d; want %d", n, got, len(want))
		}
	}
}

// 2.1: the bytes have no room behind them, so that whoever lays more behind them gets other memory.
func TestLaidHasNoRoomBehind(t *testing.T) {
	for _, n := range numbers() {
		if got := laid(n); cap(got) != len(got) {
			t.Errorf("laid(%d) has %d bytes, and room for %d", n, len(got), cap(got))
		}
	}
}

// 2.1: blanks ahead, where fewer, as many, and more bytes are asked than the text has.
func TestPad(t *testing.T) {
	cases := []struct {
		n, wide int
		want    string
	}{
		{0, 0, "0"}, {0, 1, "0"}, {0, 2, " 0"}, {0, 5, "    0"}, {0, -1, "0"},
		{42, 1, "42"}, {42, 2, "42"}, {42, 3, " 42"}, {42, 4, "  42"},
		{-42, 2, "-42"}, {-42, 3, "-42"}, {-42, 4, " -42"}, {-42, 10, "       -42"},
		{most, 18, "9223372036854775807"}, {most, 19, "9223372036854775807"}, {most, 20, " 9223372036854775807"},
		{least, 19, "-9223372036854775808"}, {least, 20, "-9223372036854775808"}, {least, 21, " -9223372036854775808"},
		{least, 24, "    -9223372036854775808"},
	}
	for _, c := range cases {
		if got := Pad(c.n, c.wide); got != c.want {
			t.Errorf("Pad(%d, %d) = %q; want %q", c.n, c.wide, got, c.want)
		}
	}
}

// 2.1: where no bytes are asked, or fewer than none, the text stands alone, however far below 0 that is.
func TestPadOfNone(t *testing.T) {
	for _, n := range []int{0, 7, -7, 1000, most, least} {
		for _, wide := range []int{0, -1, -2, -19, -20, -21, -1 << 31, -1 << 32, least + 20, least + 1, least} {
			if got := Pad(n, wide); got != strconv.Itoa(n) {
				t.Errorf("Pad(%d, %d) = %q; want no blanks", n, wide, got)
			}
		}
	}
}

// 2.1: of each number, as many blanks as there must be, and no more.
func TestPadAgainstModel(t *testing.T) {
	for _, n := range numbers() {
		text := strconv.Itoa(n)
		for wide := -2; wide < 30; wide++ {
			want := strings.Repeat(" ", max(0, wide-len(text))) + text
			if got := Pad(n, wide); got != want {
				t.Errorf("Pad(%d, %d) = %q; want %q", n, wide, got, want)
			}
		}
	}
	if got := Pad(-5, 100000); got != strings.Repeat(" ", 99998)+"-5" {
		t.Errorf("Pad(-5, 100000) has %d bytes", len(got))
	}
}

// P0: more bytes than any answer may have are no reason to panic.
func TestPadBeyondBoundEnds(t *testing.T) {
	for _, wide := range []int{1 << 31, 1 << 40, 1 << 62, most} {
		if got := Pad(-5, wide); !strings.HasSuffix(got, "-5") {
			t.Errorf("Pad(-5, %d) does not end in the number", wide)
		}
	}
}

type scanCase struct {
	s      string
	at     int
	n, end int
	code   api.Code
}

func tryScan(t *testing.T, cases []scanCase) {
	t.Helper()
	for _, c := range cases {
		n, end, code := Scan(c.s, c.at)
		if n != c.n || end != c.end || code != c.code {
			t.Errorf("Scan(%.40q, %d) = %d, %d, %d; want %d, %d, %d", c.s, c.at, n, end, code, c.n, c.end, c.code)
		}
	}
}

// 2.2: numbers at the beginning, in the middle, and at the end.
func TestScan(t *testing.T) {
	tryScan(t, []scanCase{
		{"a7b", 1, 7, 2, api.OK},
		{"0", 0, 0, 1, api.OK},
		{"5", 0, 5, 1, api.OK},
		{"-5", 0, -5, 2, api.OK},
		{"-5", 1, 5, 2, api.OK},
		{"1234", 0, 1234, 4, api.OK},
		{"1234", 2, 34, 4, api.OK},
		{"1034", 1, 0, 0, api.ErrNumber},
		{"100", 2, 0, 3, api.OK},
		{"-0", 1, 0, 2, api.OK},
		{"7-8", 0, 7, 1, api.OK},
		{"7-8", 1, -8, 3, api.OK},
		{"--8", 1, -8, 3, api.OK},
		{"0x10", 0, 0, 1, api.OK},
		{"0-1", 0, 0, 1, api.OK},
		{"0 1", 0, 0, 1, api.OK},
		{"12.5", 0, 12, 2, api.OK},
		{"12e3", 0, 12, 2, api.OK},
		{"1_000", 0, 1, 1, api.OK},
		{"12/", 0, 12, 2, api.OK},
		{"12:", 0, 12, 2, api.OK},
		{"12\x00", 0, 12, 2, api.OK},
		{"\xff-3\xff", 1, -3, 3, api.OK},
		{"12\u0663", 0, 12, 2, api.OK},
		{"-9876543210,", 0, -9876543210, 11, api.OK},
	})
}

// 2.2: places below 0, at the end, and beyond it; they are told ahead of anything else.
func TestScanPlaces(t *testing.T) {
	tryScan(t, []scanCase{
		{"123", -1, 0, 0, api.ErrArg},
		{"123", -3, 0, 0, api.ErrArg},
		{"123", least, 0, 0, api.ErrArg},
		{"123", 3, 0, 0, api.ErrNumber},
		{"123", 4, 0, 0, api.ErrArg},
		{"123", 1 << 32, 0, 0, api.ErrArg},
		{"123", most, 0, 0, api.ErrArg},
		{"", 0, 0, 0, api.ErrNumber},
		{"", 1, 0, 0, api.ErrArg},
		{"", -1, 0, 0, api.ErrArg},
		{"x", 2, 0, 0, api.ErrArg},
		{"-", 2, 0, 0, api.ErrArg},
		{"00", -1, 0, 0, api.ErrArg},
	})
}

// 2.2: no digit, a minus alone, a nought ahead of another digit, a minus ahead of a nought.
func TestScanNoNumber(t *testing.T) {
	texts := []string{
		"-", "--", "--1", "-a", "- 1", "+1", "+", "a", "a1", " 1", "\t1", ".5", "/", ":", "\x00", "\xff", "-\xb1", "\u0661",
		"00", "01", "09", "007", "000", "0123456789", "00-", "01x",
		"-0", "-00", "-01", "-0x", "-0 ", "-007", "-0-0",
	}
	for _, s := range texts {
		tryScan(t, []scanCase{
			{s, 0, 0, 0, api.ErrNumber},
			{"5" + s, 1, 0, 0, api.ErrNumber},
			{"-" + s, 1, 0, 0, api.ErrNumber},
		})
		if n, code := Get(s); n != 0 || code != api.ErrNumber {
			t.Errorf("Get(%q) = %d, %d; want 0, %d", s, n, code, api.ErrNumber)
		}
	}
}

// 2.2: numbers just within 64 bits, and just beyond.
func TestScanEnds(t *testing.T) {
	tryScan(t, []scanCase{
		{"9223372036854775806", 0, most - 1, 19, api.OK},
		{"9223372036854775807", 0, most, 19, api.OK},
		{"9223372036854775808", 0, 0, 0, api.ErrRange},
		{"9223372036854775809", 0, 0, 0, api.ErrRange},
		{"9223372036854775810", 0, 0, 0, api.ErrRange},
		{"-9223372036854775807", 0, least + 1, 20, api.OK},
		{"-9223372036854775808", 0, least, 20, api.OK},
		{"-9223372036854775809", 0, 0, 0, api.ErrRange},
		{"-9223372036854775810", 0, 0, 0, api.ErrRange},
		{"-9223372036854775808", 1, 0, 0, api.ErrRange},
		{"999999999999999999", 0, 999999999999999999, 18, api.OK},
		{"1000000000000000000", 0, 1000000000000000000, 19, api.OK},
		{"9999999999999999999", 0, 0, 0, api.ErrRange},
		{"10000000000000000000", 0, 0, 0, api.ErrRange},
		{"-10000000000000000000", 0, 0, 0, api.ErrRange},
		// These go round to numbers that are within.
		{"18446744073709551615", 0, 0, 0, api.ErrRange},
		{"18446744073709551616", 0, 0, 0, api.ErrRange},
		{"18446744073709551617", 0, 0, 0, api.ErrRange},
		{"-18446744073709551615", 0, 0, 0, api.ErrRange},
		{"-18446744073709551621", 0, 0, 0, api.ErrRange},
		{"36893488147419103237", 0, 0, 0, api.ErrRange},
		{"92233720368547758070", 0, 0, 0, api.ErrRange},
		{"a9223372036854775807b", 1, most, 20, api.OK},
		{"a9223372036854775808b", 1, 0, 0, api.ErrRange},
		{"a-9223372036854775808b", 1, least, 21, api.OK},
		{"a-9223372036854775809b", 1, 0, 0, api.ErrRange},
	})
}

// 2.2: very many digits: how they begin is told ahead of how many they are.
func TestScanManyDigits(t *testing.T) {
	for _, many := range []int{20, 21, 40, 100, 1000, 1 << 20} {
		noughts, nines := strings.Repeat("0", many), strings.Repeat("9", many)
		tryScan(t, []scanCase{
			{nines, 0, 0, 0, api.ErrRange},
			{"-" + nines, 0, 0, 0, api.ErrRange},
			{"1" + noughts, 0, 0, 0, api.ErrRange},
			{"-1" + noughts + "x", 0, 0, 0, api.ErrRange},
			{noughts, 0, 0, 0, api.ErrNumber},
			{"-" + noughts, 0, 0, 0, api.ErrNumber},
			{"0" + nines, 0, 0, 0, api.ErrNumber},
			{"-0" + nines, 0, 0, 0, api.ErrNumber},
			{noughts + "1", 0, 0, 0, api.ErrNumber},
			{nines, many - 3, 999, many, api.OK},
			{nines, many - 18, 999999999999999999, many, api.OK},
			{nines, many - 19, 0, 0, api.ErrRange},
			{noughts + "-17", many, -17, many + 3, api.OK},
		})
	}
}

// 2.2: whole texts; what Scan finds wrong is told ahead of what is left behind.
func TestGet(t *testing.T) {
	cases := []struct {
		s    string
		n    int
		code api.Code
	}{
		{"0", 0, api.OK}, {"7", 7, api.OK}, {"-7", -7, api.OK}, {"1000", 1000, api.OK},
		{"9223372036854775807", most, api.OK}, {"-9223372036854775808", least, api.OK},
		{"", 0, api.ErrNumber}, {"-", 0, api.ErrNumber}, {"-0", 0, api.ErrNumber}, {"01", 0, api.ErrNumber},
		{"7b", 0, api.ErrNumber}, {"7 ", 0, api.ErrNumber}, {"7-", 0, api.ErrNumber}, {"7-8", 0, api.ErrNumber},
		{"0-", 0, api.ErrNumber}, {"-7.", 0, api.ErrNumber}, {"7\n", 0, api.ErrNumber}, {"7\x00", 0, api.ErrNumber},
		{"7\xff", 0, api.ErrNumber}, {" 7", 0, api.ErrNumber}, {"a7b", 0, api.ErrNumber}, {"0x7", 0, api.ErrNumber},
		{"9223372036854775807x", 0, api.ErrNumber}, {"-9223372036854775808 ", 0, api.ErrNumber},
		{"9223372036854775808", 0, api.ErrRange}, {"-9223372036854775809", 0, api.ErrRange},
		{"9223372036854775808x", 0, api.ErrRange}, {"-9223372036854775809 ", 0, api.ErrRange},
		{strings.Repeat("1", 100000), 0, api.ErrRange}, {strings.Repeat("0", 100000), 0, api.ErrNumber},
	}
	for _, c := range cases {
		if n, code := Get(c.s); n != c.n || code != c.code {
			t.Errorf("Get(%.40q) = %d, %d; want %d, %d", c.s, n, code, c.n, c.code)
		}
	}
}

var (
	comes  = regexp.MustCompile(`^-?[0-9]*`)
	proper = regexp.MustCompile(`^(0|-?[1-9][0-9]*)$`)
)

// model is what the document says Scan answers, worked out another way.
func model(s string, at int) (int, int, api.Code) {
	if at < 0 || at > len(s) {
		return 0, 0, api.ErrArg
	}
	text := comes.FindString(s[at:])
	if !proper.MatchString(text) {
		return 0, 0, api.ErrNumber
	}
	n, _ := new(big.Int).SetString(text, 10)
	if !n.IsInt64() {
		return 0, 0, api.ErrRange
	}
	return int(n.Int64()), at + len(text), api.OK
}

// tryText holds Scan of a text, at all its places and some beyond, and Get of it against the model.
func tryText(t *testing.T, s string) {
	t.Helper()
	for at := -1; at <= len(s)+1; at++ {
		n, end, code := Scan(s, at)
		wantN, wantEnd, wantCode := model(s, at)
		if n != wantN || end != wantEnd || code != wantCode {
			t.Fatalf("Scan(%q, %d) = %d, %d, %d; want %d, %d, %d", s, at, n, end, code, wantN, wantEnd, wantCode)
		}
		if code == api.OK && Put(n) != s[at:end] {
			t.Fatalf("Scan(%q, %d) reads %q, which is put as %q", s, at, s[at:end], Put(n))
		}
	}
	wantN, end, wantCode := model(s, 0)
	if wantCode == api.OK && end < len(s) {
		wantN, wantCode = 0, api.ErrNumber
	}
	if n, code := Get(s); n != wantN || code != wantCode {
		t.Fatalf("Get(%q) = %d, %d; want %d, %d", s, n, code, wantN, wantCode)
	}
}

// 2.2, 2.3: all short texts of some bytes, alone and where they lead up to the ends of 64 bits.
func TestScanAgainstModel(t *testing.T) {
	var try func(s string, more int)
	try = func(s string, more int) {
		tryText(t, s)
		if more == 0 {
			return
		}
		for _, b := range []byte("-0179a\xff") {
			try(s+string([]byte{b}), more-1)
		}
	}
	try("", 5)
	for _, start := range []string{"922337203685477580", "-922337203685477580", "1844674407370955161", "x-92233720368547758"} {
		try(start, 2)
	}
}

// 2.2: of all bytes just ten are digits, and one is the minus.
func TestScanEachByte(t *testing.T) {
	for b := range 256 {
		one := string([]byte{byte(b)})
		for _, s := range []string{one, one + "5", "5" + one, "5" + one + "5", "-" + one, "-5" + one} {
			tryText(t, s)
		}
	}
}

// 2.3: a number is read of its text as it was, alone and amidst others.
func TestPutIsRead(t *testing.T) {
	for _, n := range numbers() {
		text := Put(n)
		if got, code := Get(text); got != n || code != api.OK {
			t.Errorf("Get(Put(%d)) = %d, %d", n, got, code)
		}
		for _, ahead := range []string{"", "-", "0", "9", "a ", "\xff"} {
			for _, behind := range []string{"", "-", " 1", "b", "\xff"} {
				got, end, code := Scan(ahead+text+behind, len(ahead))
				if got != n || end != len(ahead)+len(text) || code != api.OK {
					t.Errorf("Scan of %q within %q = %d, %d, %d", text, ahead+text+behind, got, end, code)
				}
			}
		}
	}
}

// 2.3: what is read is a number's text: whatever else is told so by others is not read.
func TestReadIsPut(t *testing.T) {
	for _, n := range numbers() {
		text := strconv.Itoa(n)
		for _, s := range []string{text, "0" + text, "-" + text, "+" + text, " " + text, text + " ", text + "0", text + "-"} {
			got, code := Get(s)
			if code == api.OK && Put(got) != s {
				t.Errorf("Get(%q) = %d, which is put as %q", s, got, Put(got))
			}
			if code != api.OK && s == text {
				t.Errorf("Get(%q): %d", s, code)
			}
		}
	}
}

// 2.2, 2.3: any bytes.
func FuzzScan(f *testing.F) {
	for _, s := range []string{"", "-", "0", "-0", "00", "7b", "-9223372036854775808", "9223372036854775808", "\xff1"} {
		f.Add(s)
	}
	f.Fuzz(tryText)
}
