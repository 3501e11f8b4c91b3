package quote

import (
	"fmt"
	"math"
	"regexp"
	"strconv"
	"strings"
	"testing"

	"dyehouse/api"
)

// 3.1: texts that are written out here.
func TestPut(t *testing.T) {
	cases := []struct{ s, want string }{
		{"", `""`},
		{"a", `"a"`},
		{"aA\n", `"aA\n"`},
		{"say \"no\"", `"say \"no\""`},
		{"\"", `"\""`},
		{"\"\"", `"\"\""`},
		{"\\", `"\\"`},
		{"\\\\", `"\\\\"`},
		{"\\n", `"\\n"`},
		{"\\x41", `"\\x41"`},
		{"\\\"", `"\\\""`},
		{"a\tb\nc", `"a\tb\nc"`},
		{"\r\n", `"\x0d\n"`},
		{"\x00\x01\x0f\x10", `"\x00\x01\x0f\x10"`},
		{"'`/%$#", "\"'`/%$#\""},
		{"\x1f ~\x7f", `"\x1f ~\x7f"`},
		{"\x80\xab\xcd\xff", `"\x80\xab\xcd\xff"`},
		{"\u00e9\u20ac", `"\xc3\xa9\xe2\x82\xac"`},
	}
	for _, c := range cases {
		if got := Put(c.s); got != c.want {
			t.Errorf("Put(%q) = %s; want %s", c.s, got, c.want)
		}
	}
}

// toldAs is what the document says a byte is between quotes.
func toldAs(b int) string {
	switch b {
	case 9:
		return "\\t"
	case 10:
		return "\\n"
	case 34:
		return "\\\""
	case 92:
		return "\\\\"
	}
	if b < 32 || b > 126 {
		return fmt.Sprintf("\\x%02x", b)
	}
	return string(rune(b))
}

// 3.1: each of the 256 bytes, alone and between others; the edges are written out here, too.
func TestPutEachByte(t *testing.T) {
	edges := map[int]string{
		0: `\x00`, 8: `\x08`, 9: `\t`, 10: `\n`, 11: `\x0b`, 13: `\x0d`, 31: `\x1f`, 32: " ", 33: "!", 34: `\"`, 35: "#",
		91: "[", 92: `\\`, 93: "]", 126: "~", 127: `\x7f`, 128: `\x80`, 159: `\x9f`, 160: `\xa0`, 250: `\xfa`, 255: `\xff`,
	}
	for b := range 256 {
		want := toldAs(b)
		if edge, ok := edges[b]; ok && edge != want {
			t.Fatalf("the byte %d is told as %s by this test", b, want)
		}
		s := string([]byte{byte(b)})
		if got := Put(s); got != `"`+want+`"` {
			t.Errorf("Put of the byte %d = %s; want it as %s", b, got, want)
		}
		if got := Put("0" + s + s + "f"); got != `"0`+want+want+`f"` {
			t.Errorf("Put of the byte %d twice between 0 and f = %s", b, got)
		}
	}
}

// 3.1: all pairs of bytes: what one is told as does not hang on the other one.
func TestPutPairs(t *testing.T) {
	for a := range 256 {
		for b := range 256 {
			want := `"` + toldAs(a) + toldAs(b) + `"`
			if got := Put(string([]byte{byte(a), byte(b)})); got != want {
				t.Fatalf("Put of the bytes %d, %d = %s; want %s", a, b, got, want)
			}
		}
	}
}

// 3.1: Put knows no bound of length.
func TestPutLong(t *testing.T) {
	for _, many := range []int{64, 65, 1000, 1 << 20} {
		if got := Put(strings.Repeat("a", many)); got != `"`+strings.Repeat("a", many)+`"` {
			t.Errorf("Put of %d bytes a has %d bytes", many, len(got))
		}
		if got := Put(strings.Repeat("\x00", many)); got != `"`+strings.Repeat(`\x00`, many)+`"` {
			t.Errorf("Put of %d bytes 0 has %d bytes", many, len(got))
		}
	}
}

type scanCase struct {
	s    string
	at   int
	text string
	end  int
	code api.Code
}

func tryScan(t *testing.T, cases []scanCase) {
	t.Helper()
	for _, c := range cases {
		text, end, code := Scan(c.s, c.at)
		if text != c.text || end != c.end || code != c.code {
			t.Errorf("Scan(%.90q, %d) = %q, %d, %d; want %q, %d, %d", c.s, c.at, text, end, code, c.text, c.end, c.code)
		}
	}
}

// 3.2: texts at the beginning, in the middle, and at the end.
func TestScan(t *testing.T) {
	tryScan(t, []scanCase{
		{`"a\x41\n"`, 0, "aA\n", 9, api.OK},
		{`""`, 0, "", 2, api.OK},
		{`"a"`, 0, "a", 3, api.OK},
		{`x"a"y`, 1, "a", 4, api.OK},
		{`call "f"(%0);`, 5, "f", 8, api.OK},
		{`"a""b"`, 0, "a", 3, api.OK},
		{`"a""b"`, 2, "", 4, api.OK},
		{`"a""b"`, 3, "b", 6, api.OK},
		{`"""`, 0, "", 2, api.OK},
		{`"""`, 1, "", 3, api.OK},
		{`"a\"b"`, 0, `a"b`, 6, api.OK},
		{`"a\"b"`, 3, "b", 6, api.OK},
		{`"\\"`, 0, `\`, 4, api.OK},
		{`"\\\""`, 0, `\"`, 6, api.OK},
		{`"\\"n"`, 0, `\`, 4, api.OK},
		{`"\\n"`, 0, `\n`, 5, api.OK},
		{`"\\x41"`, 0, `\x41`, 7, api.OK},
		{`"\t\n\"\\"`, 0, "\t\n\"\\", 10, api.OK},
		{`"\x411"`, 0, "A1", 7, api.OK},
		{`"\x22\x5c\x0a\x09"`, 0, "\"\\\n\t", 18, api.OK},
		{`"\x22n"`, 0, "\"n", 7, api.OK},
		{`"\x5cn"`, 0, "\\n", 7, api.OK},
		{"\"a\"\n", 0, "a", 3, api.OK},
		{"\n\"a\"", 1, "a", 4, api.OK},
		{`\"a"`, 1, "a", 4, api.OK},
		{`"a"\`, 0, "a", 3, api.OK},
	})
}

// 3.2: any byte but a quote, a backslash and the byte 10 stands for itself; so bytes of runes do, broken or whole.
func TestScanEachByte(t *testing.T) {
	for b := range 256 {
		s := string([]byte{'"', 'a', byte(b), 'n', '"'})
		want := scanCase{s, 0, s[1:4], 5, api.OK}
		switch b {
		case 10:
			want = scanCase{s, 0, "", 2, api.ErrQuote}
		case 34:
			want = scanCase{s, 0, "a", 3, api.OK}
		case 92:
			want = scanCase{s, 0, "a\n", 5, api.OK}
		}
		tryScan(t, []scanCase{want})
	}
	tryScan(t, []scanCase{
		{"\"\u20ac\"", 0, "\u20ac", 5, api.OK},
		{"\"\xe2\x82\"", 0, "\xe2\x82", 4, api.OK},
		{"\"\ufffd\xff\"", 0, "\ufffd\xff", 6, api.OK},
		{"\"\r\"", 0, "\r", 3, api.OK},
	})
}

// 3.2: places below 0, at the end, and beyond it, and those where no quote stands: 0 is told beside them.
func TestScanNoBeginning(t *testing.T) {
	least, most := math.MinInt64, math.MaxInt64
	for _, s := range []string{"", "a", `"`, `""`, `"a"`, "\"a\n", `"\q"`, `"` + strings.Repeat("a", 100)} {
		for _, at := range []int{least, least + 1, -1 << 32, -2, -1, len(s), len(s) + 1, 1 << 32, most - 1, most} {
			tryScan(t, []scanCase{{s, at, "", 0, api.ErrArg}})
		}
	}
	for b := range 256 {
		if b == 34 {
			continue
		}
		tryScan(t, []scanCase{
			{string([]byte{byte(b), '"', 'a', '"'}), 0, "", 0, api.ErrArg},
			{string([]byte{'"', byte(b), '"', 'a', '"'}), 1, "", 0, api.ErrArg},
			{string([]byte{'"', 'a', '"', byte(b)}), 3, "", 0, api.ErrArg},
		})
	}
}

// 3.2: the text ends ahead of its quote: the place is where it ends.
func TestScanNoEnd(t *testing.T) {
	for _, s := range []string{
		`"`, `"a`, `"abc `, `"a\"`, `"\\\"`, `"\\`, `"\n`, `"\x41`, `"\x22`, "\"\x00", "\"\xff", "\"\t", "\"\r",
	} {
		tryScan(t, []scanCase{
			{s, 0, "", len(s), api.ErrQuote},
			{"xy" + s, 2, "", len(s) + 2, api.ErrQuote},
			{`""` + s, 2, "", len(s) + 2, api.ErrQuote},
		})
	}
}

// 3.2: a byte 10 ahead of the quote: the place is its own, whatever stands behind it.
func TestScanLineEnds(t *testing.T) {
	for _, s := range []string{`"`, `"a`, `"abc `, `"a\"`, `"\\`, `"\n`, `"\x41`, `"\x0a`, "\"\r"} {
		for _, behind := range []string{"", `"`, `a"`, "\n", `\`, `\q"`, strings.Repeat("a", 100)} {
			tryScan(t, []scanCase{
				{s + "\n" + behind, 0, "", len(s), api.ErrQuote},
				{"xyz" + s + "\n" + behind, 3, "", len(s) + 3, api.ErrQuote},
			})
		}
	}
}

// 3.2: a backslash that begins no escape: the place is its own, though the text ends, or a byte 10 stands, behind it.
func TestScanNoEscape(t *testing.T) {
	for _, tail := range []string{
		`\`, `\x`, `\x4`, `\x"`, `\x4"`, `\x`, `\xg1"`, `\x1g"`, `\xgg"`, `\x 1"`, `\x1 "`, `\x-1"`, `\x+1"`, `\x0x41"`,
		`\x/0"`, `\x0/"`, `\x:0"`, `\x0:"`, "\\x`0\"", "\\x0`\"", `\x@0"`, `\x0@"`, `\xG0"`, `\x0G"`,
		`\X41"`, `\N"`, `\T"`, `\r"`, `\0"`, `\101"`, `\u0041"`, `\'"`, `\ "`, `\a"`, `\b"`,
		"\\\n\"", "\\x\n\"", "\\x4\n\"", "\\\t\"", "\\\x00\"", "\\\xff\"", "\\x\xb1\xb1\"", "\\x\x141\"", "\\x4\xb1\"",
		`\x\41"`, `\x4\"`, `\x"41"`, `\x4\x41"`, `\x` + "\u0664\u0661\"",
	} {
		for _, head := range []string{`"`, `"a`, `"\\`, `"\"`, `"\x41`, `"\n\t`} {
			s := head + tail
			tryScan(t, []scanCase{
				{s, 0, "", len(head), api.ErrQuote},
				{"x" + s, 1, "", len(head) + 1, api.ErrQuote},
				{s + "\n" + `"`, 0, "", len(head), api.ErrQuote},
			})
		}
	}
}

// 3.2: just these bytes begin an escape behind a backslash.
func TestScanEachEscape(t *testing.T) {
	means := map[int]string{'"': `"`, '\\': `\`, 'n': "\n", 't': "\t"}
	for b := range 256 {
		s := string([]byte{'"', '\\', byte(b), '4', '1', '"'})
		want := scanCase{s, 0, "", 1, api.ErrQuote}
		if b == 'x' {
			want = scanCase{s, 0, "A", 6, api.OK}
		} else if mean, ok := means[b]; ok {
			want = scanCase{s, 0, mean + "41", 6, api.OK}
		}
		tryScan(t, []scanCase{want})
	}
}

// 3.2: all pairs of bytes behind an x: just digits are read, A to F as a to f, and any byte may be told so.
func TestScanEachPairOfDigits(t *testing.T) {
	const small, great = "0123456789abcdef", "0123456789ABCDEF"
	value := func(b int) int {
		return max(strings.IndexByte(small, byte(b)), strings.IndexByte(great, byte(b)))
	}
	for high := range 256 {
		for low := range 256 {
			s := string([]byte{'"', '\\', 'x', byte(high), byte(low), '"'})
			want := scanCase{s, 0, "", 1, api.ErrQuote}
			if value(high) >= 0 && value(low) >= 0 {
				want = scanCase{s, 0, string([]byte{byte(value(high)*16 + value(low))}), 6, api.OK}
			}
			tryScan(t, []scanCase{want})
		}
	}
}

// 3.2: texts of 63, 64 and 65 bytes, each of which is told by a byte or by an escape; the place is where the one too
// many begins.
func TestScanLong(t *testing.T) {
	for _, piece := range []string{"a", " ", "\x00", "\xff", `\n`, `\t`, `\"`, `\\`, `\x41`, `\x0A`} {
		one, _, code := Scan(`"`+piece+`"`, 0)
		if code != api.OK || len(one) != 1 {
			t.Fatalf("%q: %q, %d", piece, one, code)
		}
		for _, many := range []int{62, 63, 64, 65, 66, 128, 1000} {
			s := `"` + strings.Repeat(piece, many) + `"`
			want := scanCase{s, 0, strings.Repeat(one, many), len(s), api.OK}
			if many > 64 {
				want = scanCase{s, 0, "", 1 + 64*len(piece), api.ErrLong}
			}
			tryScan(t, []scanCase{want})
			want.s, want.at = "ab"+s+"c", 2
			want.end += 2
			tryScan(t, []scanCase{want})
		}
	}
}

// 3.2: the bound is one of what the text says, not of how it is told, nor of where it begins.
func TestScanLongMixed(t *testing.T) {
	head := strings.Repeat(`\x41`, 10) + strings.Repeat("b", 20) + strings.Repeat(`\\`, 33)
	says := strings.Repeat("A", 10) + strings.Repeat("b", 20) + strings.Repeat(`\`, 33)
	far := strings.Repeat(" ", 1000)
	tryScan(t, []scanCase{
		{`"` + head + `"`, 0, says, len(head) + 2, api.OK},
		{`"` + head + `\x22"`, 0, says + `"`, len(head) + 6, api.OK},
		{`"` + head + `\x22c"`, 0, "", len(head) + 5, api.ErrLong},
		{`"` + head + `c\x22"`, 0, "", len(head) + 2, api.ErrLong},
		{far + `"` + head + `c"` + far, 1000, says + "c", len(head) + 1003, api.OK},
		{far + `"` + head + `c\n"` + far, 1000, "", len(head) + 1002, api.ErrLong},
	})
}

// 3.2: which code is told behind 64 bytes: a quote, the end and a byte 10 come ahead of ErrLong, and that ahead of a
// backslash that begins no escape.
func TestScanAtBound(t *testing.T) {
	full := `"` + strings.Repeat("a", 64)
	tryScan(t, []scanCase{
		{full, 0, "", 65, api.ErrQuote},
		{full + "\n", 0, "", 65, api.ErrQuote},
		{full + "\n\"", 0, "", 65, api.ErrQuote},
		{full + `"`, 0, strings.Repeat("a", 64), 66, api.OK},
		{full + "\"\n", 0, strings.Repeat("a", 64), 66, api.OK},
		{full + "a", 0, "", 65, api.ErrLong},
		{full + "a\n", 0, "", 65, api.ErrLong},
		{full + `\"`, 0, "", 65, api.ErrLong},
		{full + `\x0a`, 0, "", 65, api.ErrLong},
		{full + `\`, 0, "", 65, api.ErrLong},
		{full + `\q"`, 0, "", 65, api.ErrLong},
		{full + `\x4"`, 0, "", 65, api.ErrLong},
		{full + "\\\n", 0, "", 65, api.ErrLong},
		{full[:64], 0, "", 64, api.ErrQuote},
		{full[:64] + "\n", 0, "", 64, api.ErrQuote},
		{full[:64] + `\`, 0, "", 64, api.ErrQuote},
		{full[:64] + `\q"`, 0, "", 64, api.ErrQuote},
		{full[:64] + `\x4"`, 0, "", 64, api.ErrQuote},
		{full[:64] + `\q` + full, 0, "", 64, api.ErrQuote},
		{full[:64] + `\na"`, 0, "", 66, api.ErrLong},
	})
}

// 3.2: of several that are wrong the first one is told, byte by byte.
func TestScanFirst(t *testing.T) {
	tryScan(t, []scanCase{
		{"\"a\\q\n", 0, "", 2, api.ErrQuote},
		{"\"a\n\\q", 0, "", 2, api.ErrQuote},
		{`"\q\x4`, 0, "", 1, api.ErrQuote},
		{`"\q` + strings.Repeat("a", 100), 0, "", 1, api.ErrQuote},
		{`"` + strings.Repeat("a", 100) + `\q`, 0, "", 65, api.ErrLong},
		{`"` + strings.Repeat("a", 100) + "\n", 0, "", 65, api.ErrLong},
		{`"` + strings.Repeat("a", 100), 0, "", 65, api.ErrLong},
		{`"` + strings.Repeat("a", 30) + "\n" + strings.Repeat("a", 100), 0, "", 31, api.ErrQuote},
		{`"` + strings.Repeat("a", 1<<20), 0, "", 65, api.ErrLong},
	})
}

// 3.2: whole texts; what Scan finds wrong is told ahead of what is left behind.
func TestGet(t *testing.T) {
	full := strings.Repeat("a", 64)
	cases := []struct {
		s, text string
		code    api.Code
	}{
		{`"a\x41\n"`, "aA\n", api.OK},
		{`""`, "", api.OK},
		{`"\""`, `"`, api.OK},
		{`"` + full + `"`, full, api.OK},
		{`"` + full[1:] + `\x7E"`, full[1:] + "~", api.OK},
		{"", "", api.ErrArg},
		{"a", "", api.ErrArg},
		{` "a"`, "", api.ErrArg},
		{`a"`, "", api.ErrArg},
		{`\"a"`, "", api.ErrArg},
		{`'a'`, "", api.ErrArg},
		{"\n", "", api.ErrArg},
		{`"`, "", api.ErrQuote},
		{`"a`, "", api.ErrQuote},
		{`"a\"`, "", api.ErrQuote},
		{"\"a\n\"", "", api.ErrQuote},
		{`"\q"`, "", api.ErrQuote},
		{`"\x4"`, "", api.ErrQuote},
		{`"a" `, "", api.ErrQuote},
		{`"a"b`, "", api.ErrQuote},
		{`"a""b"`, "", api.ErrQuote},
		{`"""`, "", api.ErrQuote},
		{"\"a\"\n", "", api.ErrQuote},
		{"\"a\"\x00", "", api.ErrQuote},
		{`""\`, "", api.ErrQuote},
		{`"` + full + `"b`, "", api.ErrQuote},
		{`"` + full + `b"`, "", api.ErrLong},
		{`"` + full + `b"c`, "", api.ErrLong},
		{`"` + full + `\x41"`, "", api.ErrLong},
		{`"` + full + `\q"`, "", api.ErrLong},
		{`"` + full, "", api.ErrQuote},
		{`"` + full + "\n", "", api.ErrQuote},
	}
	for _, c := range cases {
		if text, code := Get(c.s); text != c.text || code != c.code {
			t.Errorf("Get(%q) = %q, %d; want %q, %d", c.s, text, code, c.text, c.code)
		}
	}
}

const onePiece = `(?:[^"\\\n]|\\["\\nt]|\\x[0-9a-fA-F][0-9a-fA-F])`

var (
	pieces  = regexp.MustCompile(`^` + onePiece + `{0,64}`)
	apart   = regexp.MustCompile(onePiece)
	escapes = strings.NewReplacer(`\"`, `"`, `\\`, `\`, `\n`, "\n", `\t`, "\t")
)

// runes is a text with a rune for each byte, since the library's patterns take several bytes for one rune.
func runes(s string) string {
	var out []rune
	for i := range len(s) {
		out = append(out, rune(s[i]))
	}
	return string(out)
}

// saidBy is the byte that a piece of a text of runes tells.
func saidBy(piece string) byte {
	if strings.HasPrefix(piece, `\x`) {
		n, _ := strconv.ParseUint(piece[2:], 16, 8)
		return byte(n)
	}
	return byte([]rune(escapes.Replace(piece))[0])
}

// model is what the document says Scan answers, worked out another way.
func model(s string, at int) (string, int, api.Code) {
	if at < 0 || at >= len(s) || s[at] != '"' {
		return "", 0, api.ErrArg
	}
	comes := pieces.FindString(runes(s[at+1:]))
	var text []byte
	for _, piece := range apart.FindAllString(comes, -1) {
		text = append(text, saidBy(piece))
	}
	place := at + 1 + len([]rune(comes))
	switch {
	case place == len(s) || s[place] == '\n':
		return "", place, api.ErrQuote
	case s[place] == '"':
		return string(text), place + 1, api.OK
	case len(text) == 64:
		return "", place, api.ErrLong
	}
	return "", place, api.ErrQuote
}

// tryText holds Scan of a text, at all its places and some beyond, and Get of it against the model, and reads what Put
// makes of it.
func tryText(t *testing.T, s string) {
	t.Helper()
	for at := -1; at <= len(s)+1; at++ {
		text, end, code := Scan(s, at)
		wantText, wantEnd, wantCode := model(s, at)
		if text != wantText || end != wantEnd || code != wantCode {
			t.Fatalf("Scan(%q, %d) = %q, %d, %d; want %q, %d, %d", s, at, text, end, code, wantText, wantEnd, wantCode)
		}
	}
	wantText, end, wantCode := model(s, 0)
	if wantCode == api.OK && end < len(s) {
		wantText, wantCode = "", api.ErrQuote
	}
	if text, code := Get(s); text != wantText || code != wantCode {
		t.Fatalf("Get(%q) = %q, %d; want %q, %d", s, text, code, wantText, wantCode)
	}
	tryBack(t, s)
}

// tryBack puts a text, and reads it, alone and among others.
func tryBack(t *testing.T, s string) {
	t.Helper()
	put := Put(s)
	want, wantCode := s, api.OK
	if len(s) > 64 {
		want, wantCode = "", api.ErrLong
	}
	if text, code := Get(put); text != want || code != wantCode {
		t.Fatalf("Get(%s) = %q, %d; want %q, %d", put, text, code, want, wantCode)
	}
	wantEnd := 1 + len(put)
	if wantCode != api.OK {
		wantEnd = len(Put(s[:64]))
	}
	for _, behind := range []string{"", `"`, "\n", `\`, "n41"} {
		text, end, code := Scan("\\"+put+behind, 1)
		if text != want || end != wantEnd || code != wantCode {
			t.Fatalf("Scan(%q, 1) = %q, %d, %d; want %q, %d, %d", "\\"+put+behind, text, end, code, want, wantEnd, wantCode)
		}
	}
}

// 3.2, 3.3: all short texts of some bytes, alone and where they lead up to the bound.
func TestAllShortTexts(t *testing.T) {
	const letters = "\"\\\nxn4fAg"
	var grow func(s string, left int)
	grow = func(s string, left int) {
		tryText(t, s)
		tryText(t, `"`+s)
		if left == 0 {
			return
		}
		for i := range len(letters) {
			grow(s+letters[i:i+1], left-1)
		}
	}
	grow("", 4)
	grow(`"`+strings.Repeat("a", 62), 3)
	grow(`\x4`, 3)
}

// 3.3: each byte, each pair of bytes, and texts up to the bound are read as they were.
func TestBack(t *testing.T) {
	tryBack(t, "")
	for a := range 256 {
		tryBack(t, string([]byte{byte(a)}))
		for _, many := range []int{63, 64, 65, 66, 300} {
			tryBack(t, strings.Repeat(string([]byte{byte(a)}), many))
		}
		for b := range 256 {
			tryBack(t, string([]byte{byte(a), byte(b)}))
		}
	}
	every := make([]byte, 256+64)
	for i := range every {
		every[i] = byte(i)
	}
	for from := range 256 {
		for _, many := range []int{5, 63, 64} {
			tryBack(t, string(every[from:from+many]))
		}
	}
}

// 3.1 to 3.3: any bytes.
func FuzzScan(f *testing.F) {
	for _, s := range []string{"", `"`, `""`, `"a\x41\n"`, `"\q"`, `"\x4`, "\"\n", "\xff\"\xff\"", `"` + strings.Repeat("a", 65)} {
		f.Add(s)
	}
	f.Fuzz(tryText)
}
