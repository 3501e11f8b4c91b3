package lex

import (
	"fmt"
	"math"
	"math/big"
	"regexp"
	"slices"
	"strconv"
	"strings"
	"testing"

	"dyehouse/api"
	"dyehouse/fault"
	"dyehouse/quote"
)

// outcome is what All answers of a text: its tokens, or a code and a place.
type outcome struct {
	tokens []api.Token
	code   api.Code
	at     int
}

// got is what All answers; it is held against what else is promised of any answer, too.
func got(t *testing.T, text string) outcome {
	t.Helper()
	tokens, err := All(text)
	if err == nil {
		if len(tokens) == 0 || tokens[len(tokens)-1] != (api.Token{Kind: api.TokEnd, At: len(text)}) {
			t.Fatalf("All(%.90q) = %v: no end is the last one", text, tokens)
		}
		return outcome{tokens: tokens}
	}
	code, at := fault.Of(err), fault.At(err)
	if code == api.OK || len(tokens) != 0 || len(fault.Path(err)) != 0 {
		t.Fatalf("All(%.90q) = %v, %v: beside a fault there are no tokens, and it is within nothing", text, tokens, err)
	}
	if want := fmt.Sprintf("%d at %d", code, at); err.Error() != want || fault.New(code, at) != err {
		t.Fatalf("All(%.90q): the fault is %v; want that of 5.1, %s", text, err, want)
	}
	return outcome{code: code, at: at}
}

// same holds an outcome against the one that is wanted.
func same(t *testing.T, text string, got, want outcome) {
	t.Helper()
	if got.code != want.code || got.at != want.at || !slices.Equal(got.tokens, want.tokens) {
		t.Fatalf("All(%.90q) = %.600s; want %.600s", text, fmt.Sprintf("%#v", got), fmt.Sprintf("%#v", want))
	}
}

// isRight holds All of a text against tokens, behind which its end stands.
func isRight(t *testing.T, text string, tokens ...api.Token) {
	t.Helper()
	end := api.Token{Kind: api.TokEnd, At: len(text)}
	same(t, text, got(t, text), outcome{tokens: append(slices.Clone(tokens), end)})
}

// isWrong holds All of a text against a fault.
func isWrong(t *testing.T, text string, code api.Code, at int) {
	t.Helper()
	same(t, text, got(t, text), outcome{code: code, at: at})
}

func word(text string, at int) api.Token {
	return api.Token{Kind: api.TokWord, Text: text, At: at}
}

func sign(text string, at int) api.Token {
	return api.Token{Kind: api.TokSign, Text: text, At: at}
}

func number(text string, n, at int) api.Token {
	return api.Token{Kind: api.TokNumber, Text: text, N: n, At: at}
}

func quoted(says string, at int) api.Token {
	return api.Token{Kind: api.TokText, Text: says, At: at}
}

func vreg(text string, n, at int) api.Token {
	return api.Token{Kind: api.TokVreg, Text: text, N: n, At: at}
}

func slot(text string, n, at int) api.Token {
	return api.Token{Kind: api.TokSlot, Text: text, N: n, At: at}
}

func gReg(text string, n, at int) api.Token {
	return api.Token{Kind: api.TokPreg, Text: text, N: n, Class: api.ClassG, At: at}
}

func xReg(text string, n, at int) api.Token {
	return api.Token{Kind: api.TokPreg, Text: text, N: n, Class: api.ClassX, At: at}
}

// The model: what the document says of a text, worked out another way.
var (
	modelBetween = regexp.MustCompile(`\A(?:[ \t\r\n]|//[^\n]*)*`)
	modelEscape  = regexp.MustCompile(`\A(?:\\["\\nt]|\\x[0-9A-Fa-f]{2})`)
	modelWord    = regexp.MustCompile(`\A[a-z_][a-z0-9_]*`)
	modelSign    = regexp.MustCompile(`\A(?:\.\.|[][{}(),:;=+*.-])`)
	modelNumber  = regexp.MustCompile(`\A(%|#|\$(?s:.?)|)([0-9]*)`)
)

// modelQuoted is 3.2 at a quote: what is said and where it ends, or a code and the place of what is wrong.
func modelQuoted(text string, at int) (string, int, api.Code) {
	var says []byte
	i := at + 1
	for {
		switch rest := text[i:]; {
		case rest == "" || rest[0] == 10:
			return "", i, api.ErrQuote
		case rest[0] == 34:
			return string(says), i + 1, api.OK
		case len(says) == 64:
			return "", i, api.ErrLong
		case rest[0] != 92:
			says = append(says, rest[0])
			i++
		default:
			escape := modelEscape.FindString(rest)
			if escape == "" {
				return "", i, api.ErrQuote
			}
			means, _ := strconv.Unquote(`"` + escape + `"`)
			says = append(says, means...)
			i += len(escape)
		}
	}
}

// modelCounted is a number, or what has one behind its first bytes.
func modelCounted(head, digits string) (api.Token, api.Code) {
	token := api.Token{Text: head + digits}
	most := big.NewInt(1<<31 - 1)
	switch head {
	case "":
		token.Kind = api.TokNumber
		most.Lsh(big.NewInt(1), 63)
	case "%":
		token.Kind = api.TokVreg
	case "#":
		token.Kind = api.TokSlot
	case "$g", "$x":
		token.Kind = api.TokPreg
		token.Class = map[string]int{"$g": 0, "$x": 1}[head]
	default:
		return api.Token{}, api.ErrNumber
	}
	if digits == "" || len(digits) > 1 && digits[0] == 48 {
		return api.Token{}, api.ErrNumber
	}
	n, _ := new(big.Int).SetString(digits, 10)
	if n.Cmp(most) > 0 {
		return api.Token{}, api.ErrRange
	}
	token.N = int(n.Uint64())
	return token, api.OK
}

// model is what All answers of a text that is not too long.
func model(text string) outcome {
	var tokens []api.Token
	at := 0
	for {
		at += len(modelBetween.FindString(text[at:]))
		rest := text[at:]
		token := api.Token{}
		long := 0
		if rest == "" {
			return outcome{tokens: append(tokens, api.Token{At: at})}
		} else if w := modelWord.FindString(rest); w != "" {
			if len(w) > 24 {
				return outcome{code: api.ErrLong, at: at}
			}
			token, long = api.Token{Kind: api.TokWord, Text: w}, len(w)
		} else if s := modelSign.FindString(rest); s != "" {
			token, long = api.Token{Kind: api.TokSign, Text: s}, len(s)
		} else if rest[0] == 34 {
			says, end, code := modelQuoted(text, at)
			if code != api.OK {
				return outcome{code: code, at: end}
			}
			token, long = api.Token{Kind: api.TokText, Text: says}, end-at
		} else if m := modelNumber.FindStringSubmatch(rest); m[0] != "" {
			made, code := modelCounted(m[1], m[2])
			if code != api.OK {
				return outcome{code: code, at: at}
			}
			token, long = made, len(m[0])
		} else {
			return outcome{code: api.ErrByte, at: at}
		}
		token.At = at
		tokens = append(tokens, token)
		at += long
	}
}

// asModel holds All of a text against the model, and tells whether it has tokens.
func asModel(t *testing.T, text string) bool {
	t.Helper()
	want := model(text)
	same(t, text, got(t, text), want)
	return want.code == api.OK
}

// told is a token's bytes, as they may be written.
func told(token api.Token) string {
	if token.Kind == api.TokText {
		return quote.Put(token.Text)
	}
	return token.Text
}

// toldAgain is tokens (but their end) told with what gap hands out ahead of each, and the tokens as they stand there.
func toldAgain(tokens []api.Token, gap func() string) (string, []api.Token) {
	var text strings.Builder
	var there []api.Token
	for _, token := range tokens {
		text.WriteString(gap())
		there = append(there, moved(token, text.Len()))
		text.WriteString(told(token))
	}
	return text.String(), there
}

// source hands out numbers that are the same in each run.
type source uint64

func (s *source) below(n int) int {
	*s = *s*6364136223846793005 + 1442695040888963407
	return int(uint64(*s) >> 33 % uint64(n))
}

// gap is some blanks and remarks, one of them at least.
func (s *source) gap() string {
	pieces := []string{
		" ", "\t", "\r", "\n", "\r\n", "  ", "//\n", "///\n", "// a remark\n", "//\"\n", "//?!\x00\xff\n", "////\n", "// //\n",
		"//%$#\r\n", "//{ } 01 \"\\q\n", "//" + strings.Repeat("a", 30) + "\n",
	}
	gap := pieces[s.below(len(pieces))]
	for s.below(3) > 0 {
		gap += pieces[s.below(len(pieces))]
	}
	return gap
}

// samples are tokens of each kind, each of which is written as told, with At 0.
func samples() []api.Token {
	list := []api.Token{
		word("a", 0), word("_", 0), word("add", 0), word("x0", 0), word("g1", 0), word("b_2", 0), word(strings.Repeat("z", 24), 0),
		number("0", 0, 0), number("7", 7, 0), number("10", 10, 0), number("9223372036854775807", math.MaxInt64, 0),
		number("9223372036854775808", math.MinInt64, 0),
		quoted("", 0), quoted("f", 0), quoted("say \"no\"\n\t\\\x00\xff", 0), quoted("// a", 0), quoted(strings.Repeat("q", 64), 0),
		vreg("%0", 0, 0), vreg("%7", 7, 0), vreg("%2147483647", 1<<31-1, 0),
		gReg("$g0", 0, 0), gReg("$g12", 12, 0), gReg("$g2147483647", 1<<31-1, 0),
		xReg("$x0", 0, 0), xReg("$x3", 3, 0), xReg("$x2147483647", 1<<31-1, 0),
		slot("#0", 0, 0), slot("#40", 40, 0), slot("#2147483647", 1<<31-1, 0),
	}
	for _, s := range allSigns() {
		list = append(list, sign(s, 0))
	}
	return list
}

// allSigns are the signs that the document lists.
func allSigns() []string {
	return []string{"{", "}", "(", ")", "[", "]", ",", ":", ";", "=", "+", "-", "*", ".", ".."}
}

// moved is a token that stands at another place.
func moved(token api.Token, at int) api.Token {
	token.At = at
	return token
}

// 9.2: the chapter's example; and 9.1: lines that are written out here.
func TestAllExamples(t *testing.T) {
	isWrong(t, "a ?", api.ErrByte, 2)
	isRight(t, "%7 = add $x2, 5;",
		vreg("%7", 7, 0), sign("=", 3), word("add", 5), xReg("$x2", 2, 9), sign(",", 12), number("5", 5, 14), sign(";", 15))
	isRight(t, "func f(%0) {\n\tregs %0:g; // one\n\ta: call \"put\\n\"(%0);\r\n}",
		word("func", 0), word("f", 5), sign("(", 6), vreg("%0", 0, 7), sign(")", 9), sign("{", 11),
		word("regs", 14), vreg("%0", 0, 19), sign(":", 21), word("g", 22), sign(";", 23),
		word("a", 33), sign(":", 34), word("call", 36), quoted("put\n", 41), sign("(", 48), vreg("%0", 0, 49), sign(")", 51),
		sign(";", 52), sign("}", 55))
	isRight(t, "%0 3..9 in #12,$g4 [-1+2*3]",
		vreg("%0", 0, 0), number("3", 3, 3), sign("..", 4), number("9", 9, 6), word("in", 8), slot("#12", 12, 11), sign(",", 14),
		gReg("$g4", 4, 15), sign("[", 19), sign("-", 20), number("1", 1, 21), sign("+", 22), number("2", 2, 23), sign("*", 24),
		number("3", 3, 25), sign("]", 26))
}

// 9.1: texts without any token have their end alone, at their length.
func TestAllBlanks(t *testing.T) {
	isRight(t, "")
	for _, text := range []string{
		" ", "\t", "\r", "\n", "  ", "\t\t", "\r\r", "\n\n", "\r\n", " \t\r\n", "\n\r\t ", strings.Repeat(" \t\r\n", 100),
	} {
		isRight(t, text)
		isRight(t, text+"a", word("a", len(text)))
		isRight(t, "a"+text, word("a", 0))
		isRight(t, "a"+text+"b", word("a", 0), word("b", 1+len(text)))
		isRight(t, "1"+text+"2", number("1", 1, 0), number("2", 2, 1+len(text)))
		isRight(t, "."+text+".", sign(".", 0), sign(".", 1+len(text)))
	}
	for _, near := range []byte{0, 8, 11, 12, 14, 31, 127, 128, 160, 133} {
		isWrong(t, " \t\r\n"+string([]byte{near}), api.ErrByte, 4)
	}
}

// 9.1: remarks alone, ahead of tokens, between them and behind the last one; with a byte 10 behind them and without.
func TestAllRemarks(t *testing.T) {
	for _, remark := range []string{
		"//", "///", "////", "// a", "//a", "// // b", "//\r", "//\t\r ", "//\"", "//\"a\"", "//?", "//01%$#", "//\x00\xff\xc3",
		"//\\", "//\\\r", "/// /", "//\u20ac", "//" + strings.Repeat("a", 1000),
	} {
		line := remark + "\n"
		long := len(line)
		isRight(t, remark)
		isRight(t, line)
		isRight(t, " "+remark)
		isRight(t, line+line+remark)
		isRight(t, "a"+remark, word("a", 0))
		isRight(t, "a "+remark, word("a", 0))
		isRight(t, "a"+line, word("a", 0))
		isRight(t, line+"a", word("a", long))
		isRight(t, "a"+line+"b", word("a", 0), word("b", 1+long))
		isRight(t, "a "+line+" b", word("a", 0), word("b", 3+long))
		isRight(t, "1"+line+"2", number("1", 1, 0), number("2", 2, 1+long))
		isRight(t, "."+line+"."+remark, sign(".", 0), sign(".", 1+long))
		isRight(t, "a"+line+line+"\n"+line+"7", word("a", 0), number("7", 7, 2+3*long))
		isRight(t, `"`+"q"+`"`+remark, quoted("q", 0))
		isWrong(t, line+"?"+remark, api.ErrByte, long)
		isWrong(t, "%"+line+"1", api.ErrNumber, 0)
		isWrong(t, "$g"+line+"1", api.ErrNumber, 0)
	}
	isRight(t, `"// no remark"`, quoted("// no remark", 0))
	isRight(t, `"a" // "b`, quoted("a", 0))
	isRight(t, "//\r\na", word("a", 4))
	isRight(t, "//\ra")
}

// 9.2: a slash that has none beside it begins no token, and no remark.
func TestAllSlash(t *testing.T) {
	isWrong(t, "/", api.ErrByte, 0)
	isWrong(t, " /", api.ErrByte, 1)
	isWrong(t, "/ ", api.ErrByte, 0)
	isWrong(t, "/ /", api.ErrByte, 0)
	isWrong(t, "/\n/", api.ErrByte, 0)
	isWrong(t, "/\n//", api.ErrByte, 0)
	isWrong(t, "a/", api.ErrByte, 1)
	isWrong(t, "a/b", api.ErrByte, 1)
	isWrong(t, "a /b", api.ErrByte, 2)
	isWrong(t, "/*a*/", api.ErrByte, 0)
	isWrong(t, "//\n/", api.ErrByte, 3)
	isWrong(t, "// /\n /", api.ErrByte, 6)
	isWrong(t, "./", api.ErrByte, 1)
	isWrong(t, "\"a\"/", api.ErrByte, 3)
}

// 9.1: a token of each kind by itself, first, last and amidst, with blanks ahead and behind, and with none.
func TestAllEachKind(t *testing.T) {
	for _, token := range samples() {
		text := told(token)
		isRight(t, text, token)
		for _, blank := range []string{" ", "\t", "\r", "\n", " \r\n\t", "//\n", " // 1\n", "//x\n//y\n"} {
			long := len(blank)
			isRight(t, blank+text, moved(token, long))
			isRight(t, text+blank, token)
			isRight(t, blank+text+blank, moved(token, long))
			isRight(t, text+blank+"b", token, word("b", len(text)+long))
			isRight(t, "b"+blank+text, word("b", 0), moved(token, 1+long))
			isRight(t, ";"+blank+text+blank+";", sign(";", 0), moved(token, 1+long), sign(";", 1+2*long+len(text)))
		}
		isRight(t, text+"//", token)
		isRight(t, ","+text+",", sign(",", 0), moved(token, 1), sign(",", 1+len(text)))
		isRight(t, `"b"`+text+`"c"`, quoted("b", 0), moved(token, 3), quoted("c", 3+len(text)))
	}
}

// 9.1: any two tokens, with a blank between; and without one, as the model says: some of them are another one then.
func TestAllPairs(t *testing.T) {
	apart := 0
	for _, first := range samples() {
		for _, second := range samples() {
			a, b := told(first), told(second)
			isRight(t, a+" "+b, first, moved(second, len(a)+1))
			isRight(t, a+"//\n"+b, first, moved(second, len(a)+3))
			if asModel(t, a+b) && len(got(t, a+b).tokens) == 3 {
				apart++
			}
		}
	}
	if apart < 1000 {
		t.Errorf("%d pairs stand side by side", apart)
	}
}

// 9.1: tokens side by side, written out here: each goes on as far as it can, and no further.
func TestAllSideBySide(t *testing.T) {
	isRight(t, "12ab", number("12", 12, 0), word("ab", 2))
	isRight(t, "ab12", word("ab12", 0))
	isRight(t, "0a", number("0", 0, 0), word("a", 1))
	isRight(t, "0_1", number("0", 0, 0), word("_1", 1))
	isRight(t, "0x10", number("0", 0, 0), word("x10", 1))
	isRight(t, "1e5", number("1", 1, 0), word("e5", 1))
	isRight(t, "1.5", number("1", 1, 0), sign(".", 1), number("5", 5, 2))
	isRight(t, "0..10", number("0", 0, 0), sign("..", 1), number("10", 10, 3))
	isRight(t, "0...0", number("0", 0, 0), sign("..", 1), sign(".", 3), number("0", 0, 4))
	isRight(t, "a.b", word("a", 0), sign(".", 1), word("b", 2))
	isRight(t, "-5", sign("-", 0), number("5", 5, 1))
	isRight(t, "--5", sign("-", 0), sign("-", 1), number("5", 5, 2))
	isRight(t, "-9223372036854775808", sign("-", 0), number("9223372036854775808", math.MinInt64, 1))
	isRight(t, "-0", sign("-", 0), number("0", 0, 1))
	isRight(t, "5-3", number("5", 5, 0), sign("-", 1), number("3", 3, 2))
	isRight(t, "%1%2", vreg("%1", 1, 0), vreg("%2", 2, 2))
	isRight(t, "%1a", vreg("%1", 1, 0), word("a", 2))
	isRight(t, "%0x1", vreg("%0", 0, 0), word("x1", 2))
	isRight(t, "%1-2", vreg("%1", 1, 0), sign("-", 2), number("2", 2, 3))
	isRight(t, "%1.2", vreg("%1", 1, 0), sign(".", 2), number("2", 2, 3))
	isRight(t, "a%1", word("a", 0), vreg("%1", 1, 1))
	isRight(t, "#1#2", slot("#1", 1, 0), slot("#2", 2, 2))
	isRight(t, "#1g", slot("#1", 1, 0), word("g", 2))
	isRight(t, "$g1$x2", gReg("$g1", 1, 0), xReg("$x2", 2, 3))
	isRight(t, "$g1x2", gReg("$g1", 1, 0), word("x2", 3))
	isRight(t, "$x0g0", xReg("$x0", 0, 0), word("g0", 3))
	isRight(t, "g1$g1", word("g1", 0), gReg("$g1", 1, 2))
	isRight(t, "$g1:%2", gReg("$g1", 1, 0), sign(":", 3), vreg("%2", 2, 4))
	isRight(t, "#3%2$x1", slot("#3", 3, 0), vreg("%2", 2, 2), xReg("$x1", 1, 4))
	isRight(t, `a"b"c`, word("a", 0), quoted("b", 1), word("c", 4))
	isRight(t, `"a""b"`, quoted("a", 0), quoted("b", 3))
	isRight(t, `1"2"3`, number("1", 1, 0), quoted("2", 1), number("3", 3, 4))
	isRight(t, "a=b", word("a", 0), sign("=", 1), word("b", 2))
	isRight(t, "==", sign("=", 0), sign("=", 1))
	isRight(t, "{}()[],:;=+-*.", sign("{", 0), sign("}", 1), sign("(", 2), sign(")", 3), sign("[", 4), sign("]", 5), sign(",", 6),
		sign(":", 7), sign(";", 8), sign("=", 9), sign("+", 10), sign("-", 11), sign("*", 12), sign(".", 13))
}

// 9.1, 9.2: words of each length; the bound is one of each word alone.
func TestAllWords(t *testing.T) {
	for long := 1; long <= 60; long++ {
		for _, piece := range []string{"a", "z", "_", "a0", "_9", "zz_0", "b1"} {
			text := strings.Repeat(piece, long)[:long]
			if long <= 24 {
				isRight(t, text, word(text, 0))
				isRight(t, "1 "+text+" b", number("1", 1, 0), word(text, 2), word("b", 3+long))
				continue
			}
			isWrong(t, text, api.ErrLong, 0)
			isWrong(t, "1 "+text+" b", api.ErrLong, 2)
			isWrong(t, text+"?", api.ErrLong, 0)
		}
	}
	text24, text25 := "abcdefghijklmnopqrstuvw9", "abcdefghijklmnopqrstuvw_0"
	isRight(t, text24, word(text24, 0))
	isRight(t, text24+"."+text24, word(text24, 0), sign(".", 24), word(text24, 25))
	isRight(t, text24+" "+text24, word(text24, 0), word(text24, 25))
	isWrong(t, text25, api.ErrLong, 0)
	isWrong(t, text24+" "+text25, api.ErrLong, 25)
	isWrong(t, text24+"A", api.ErrByte, 24)
	isWrong(t, strings.Repeat("a", api.MaxText), api.ErrLong, 0)
	for _, text := range []string{"_", "__", "_0", "_a", "a_", "a_b", "a0", "a00", "z9z", "x", "g", "func"} {
		isRight(t, text, word(text, 0))
	}
}

// 9.2: what no word begins with, and what none has in it.
func TestAllNoWords(t *testing.T) {
	for _, c := range "ABCXYZ@`!?&|^~<>'\\" {
		isWrong(t, string(c)+"a", api.ErrByte, 0)
		isWrong(t, "a"+string(c)+"b", api.ErrByte, 1)
		isWrong(t, "ab"+string(c), api.ErrByte, 2)
	}
	isWrong(t, "\u00e4", api.ErrByte, 0)
	isWrong(t, "a\u00e4", api.ErrByte, 1)
	isWrong(t, "a\u0131", api.ErrByte, 1)
	isWrong(t, "a\u0660", api.ErrByte, 1)
}

// 9.1, 9.2: numbers at each edge, and beyond.
func TestAllNumbers(t *testing.T) {
	for text, n := range map[string]int{
		"0": 0, "1": 1, "2": 2, "9": 9, "10": 10, "11": 11, "99": 99, "100": 100, "101": 101, "1000000": 1000000,
		"2147483647": 1<<31 - 1, "2147483648": 1 << 31, "4294967295": 1<<32 - 1, "4294967296": 1 << 32,
		"999999999999999999":  999999999999999999,
		"1000000000000000000": 1000000000000000000,
		"9223372036854775799": 9223372036854775799,
		"9223372036854775806": math.MaxInt64 - 1,
		"9223372036854775807": math.MaxInt64,
		"9223372036854775808": math.MinInt64,
	} {
		isRight(t, text, number(text, n, 0))
		isRight(t, "- "+text+"*a", sign("-", 0), number(text, n, 2), sign("*", 2+len(text)), word("a", 3+len(text)))
	}
	for _, text := range []string{
		"9223372036854775809", "9223372036854775810", "9223372036854775899", "9223372036854780000", "9300000000000000000",
		"9999999999999999999", "10000000000000000000", "18446744073709551614", "18446744073709551615", "18446744073709551616",
		"18446744073709551617", "27670116110564327423", "27670116110564327424", "36893488147419103232", "92233720368547758080",
		"100000000000000000000", "340282366920938463463374607431768211456", strings.Repeat("9", 1000), "1" + strings.Repeat("0", 1000),
		strings.Repeat("1", api.MaxText-4),
	} {
		isWrong(t, text, api.ErrRange, 0)
		isWrong(t, "-"+text, api.ErrRange, 1)
		isWrong(t, "a "+text+"b", api.ErrRange, 2)
	}
	for _, text := range []string{
		"00", "01", "09", "000", "007", "010", "0123456789", "09223372036854775807", "09223372036854775808", "09223372036854775809",
		"0" + strings.Repeat("9", 1000), strings.Repeat("0", api.MaxText-4),
	} {
		isWrong(t, text, api.ErrNumber, 0)
		isWrong(t, "-"+text, api.ErrNumber, 1)
		isWrong(t, "a "+text+"b", api.ErrNumber, 2)
	}
}

// 9.1, 9.2: %, #, $g and $x with each kind of digits behind them.
func TestAllCounted(t *testing.T) {
	makers := map[string]func(text string, n, at int) api.Token{"%": vreg, "#": slot, "$g": gReg, "$x": xReg}
	for head, maker := range makers {
		for digits, n := range map[string]int{
			"0": 0, "1": 1, "9": 9, "10": 10, "15": 15, "16": 16, "100": 100, "4095": 4095, "1000000000": 1000000000,
			"2147483646": 1<<31 - 2, "2147483647": 1<<31 - 1,
		} {
			text := head + digits
			isRight(t, text, maker(text, n, 0))
			isRight(t, "a "+text+",", word("a", 0), maker(text, n, 2), sign(",", 2+len(text)))
		}
		for _, digits := range []string{
			"2147483648", "2147483649", "2147483650", "2200000000", "3000000000", "4294967295", "4294967296", "4294967297",
			"9999999999", "10000000000", "21474836470", "9223372036854775807", "9223372036854775808", "9223372036854775809",
			"18446744073709551615", "18446744073709551616", "18446744073709551617", strings.Repeat("9", 1000),
			strings.Repeat("1", api.MaxText-5),
		} {
			isWrong(t, head+digits, api.ErrRange, 0)
			isWrong(t, "a "+head+digits+"b", api.ErrRange, 2)
		}
		for _, digits := range []string{
			"00", "01", "09", "000", "007", "02147483647", "02147483648", "099999999999999999999", strings.Repeat("0", api.MaxText-5),
		} {
			isWrong(t, head+digits, api.ErrNumber, 0)
			isWrong(t, "a "+head+digits+"b", api.ErrNumber, 2)
		}
		for _, behind := range []string{
			"", " ", " 1", "\n1", "\t", "a", "a1", "_1", "-1", "-", "+1", "-0", ".", "..", ",", "%1", "#1", "$g1", "\"1\"", "//\n1", "/", "?",
			"\x00", "\xff", "\u0661", ":1", "/1", head, head + "1",
		} {
			isWrong(t, head+behind, api.ErrNumber, 0)
			isWrong(t, "b"+head+behind, api.ErrNumber, 1)
		}
	}
}

// 9.2: behind $ there must be g or x.
func TestAllNoClass(t *testing.T) {
	for b := range 256 {
		text := "$" + string([]byte{byte(b)})
		switch b {
		case 'g':
			isRight(t, text+"1", gReg("$g1", 1, 0))
		case 'x':
			isRight(t, text+"1", xReg("$x1", 1, 0))
		default:
			isWrong(t, text+"1", api.ErrNumber, 0)
			isWrong(t, "a "+text+"2147483648", api.ErrNumber, 2)
			isWrong(t, "\n"+text+"?", api.ErrNumber, 1)
		}
		isWrong(t, text, api.ErrNumber, 0)
	}
	isWrong(t, "$", api.ErrNumber, 0)
	isWrong(t, "$ g1", api.ErrNumber, 0)
	isWrong(t, "$g 1", api.ErrNumber, 0)
	isWrong(t, "$gg1", api.ErrNumber, 0)
	isWrong(t, "$gx1", api.ErrNumber, 0)
	isWrong(t, "$$g1", api.ErrNumber, 0)
	isWrong(t, "a$", api.ErrNumber, 1)
	isWrong(t, "a $", api.ErrNumber, 2)
	isWrong(t, "$g1 $G1", api.ErrNumber, 4)
}

// 9.1: texts between quotes: their Text is what they say, and the next token is read behind the quote that ends them.
func TestAllQuotes(t *testing.T) {
	for text, says := range map[string]string{
		`""`: "", `"a"`: "a", `"a b"`: "a b", `"\""`: `"`, `"\\"`: `\`, `"\n"`: "\n", `"\t"`: "\t", `"\x41"`: "A", `"\xfF"`: "\xff",
		`"\x00\x0a\x22"`: "\x00\n\"", `"\\\""`: `\"`, `"//"`: "//", `"?"`: "?", "\"\t\r\"": "\t\r", "\"\x00\xff\"": "\x00\xff",
		"\"\u20ac\"": "\u20ac", `"%1 = $q"`: "%1 = $q", `"00"`: "00",
		`"` + strings.Repeat("a", 63) + `"`: strings.Repeat("a", 63), `"` + strings.Repeat("a", 64) + `"`: strings.Repeat("a", 64),
		`"` + strings.Repeat(`\x41`, 64) + `"`: strings.Repeat("A", 64), `"` + strings.Repeat(`\n`, 64) + `"`: strings.Repeat("\n", 64),
	} {
		isRight(t, text, quoted(says, 0))
		isRight(t, "a "+text+"7", word("a", 0), quoted(says, 2), number("7", 7, 2+len(text)))
		isRight(t, text+text, quoted(says, 0), quoted(says, len(text)))
	}
}

// 9.2: what 3.2 says of texts between quotes, at the place that it says, wherever they begin.
func TestAllWrongQuotes(t *testing.T) {
	full := `"` + strings.Repeat("a", 64)
	for _, c := range []struct {
		text string
		code api.Code
		at   int
	}{
		{`"`, api.ErrQuote, 1},
		{`"a`, api.ErrQuote, 2},
		{`"a b //`, api.ErrQuote, 7},
		{`"\"`, api.ErrQuote, 3},
		{`"\\\"`, api.ErrQuote, 5},
		{`"""`, api.ErrQuote, 3},
		{"\"\n\"", api.ErrQuote, 1},
		{"\"a\n", api.ErrQuote, 2},
		{"\"ab\nc\"", api.ErrQuote, 3},
		{`"\q"`, api.ErrQuote, 1},
		{`"ab\q"`, api.ErrQuote, 3},
		{`"\N"`, api.ErrQuote, 1},
		{`"\`, api.ErrQuote, 1},
		{`"a\x4"`, api.ErrQuote, 2},
		{`"a\xg0"`, api.ErrQuote, 2},
		{"\"a\\\n\"", api.ErrQuote, 2},
		{`"a\0"`, api.ErrQuote, 2},
		{full, api.ErrQuote, 65},
		{full + "\n", api.ErrQuote, 65},
		{full + `b"`, api.ErrLong, 65},
		{full + `bc"`, api.ErrLong, 65},
		{full + `\n"`, api.ErrLong, 65},
		{full + `\q"`, api.ErrLong, 65},
		{`"` + strings.Repeat(`\x41`, 65) + `"`, api.ErrLong, 257},
		{`"` + strings.Repeat(`\\`, 65) + `"`, api.ErrLong, 129},
		{`"\q` + full, api.ErrQuote, 1},
		{full + full, api.ErrLong, 66},
		{`"a"` + full + `b"`, api.ErrLong, 68},
		{`"a""\q"`, api.ErrQuote, 4},
	} {
		isWrong(t, c.text, c.code, c.at)
		isWrong(t, "ab "+c.text, c.code, c.at+3)
		isWrong(t, "// \"\n"+c.text, c.code, c.at+5)
		isWrong(t, `""`+c.text, c.code, c.at+2)
	}
}

// 9.1: each of the signs; and points, of which two are one token from the first one on.
func TestAllSigns(t *testing.T) {
	for _, first := range allSigns() {
		isRight(t, first, sign(first, 0))
		isRight(t, "a"+first+"b", word("a", 0), sign(first, 1), word("b", 1+len(first)))
		isRight(t, first+" "+first, sign(first, 0), sign(first, len(first)+1))
		if first != "." {
			isRight(t, first+first, sign(first, 0), sign(first, len(first)))
		}
	}
	for many := range 20 {
		var want []api.Token
		for at := 0; at < many; at += 2 {
			want = append(want, sign(".."[:min(2, many-at)], at))
		}
		isRight(t, strings.Repeat(".", many), want...)
	}
	isRight(t, ".", sign(".", 0))
	isRight(t, "..", sign("..", 0))
	isRight(t, "...", sign("..", 0), sign(".", 2))
	isRight(t, "....", sign("..", 0), sign("..", 2))
	isRight(t, ". .", sign(".", 0), sign(".", 2))
	isRight(t, ". ..", sign(".", 0), sign("..", 2))
	isRight(t, ".. .", sign("..", 0), sign(".", 3))
	isRight(t, ".a..b", sign(".", 0), word("a", 1), sign("..", 2), word("b", 4))
}

// 9.1, 9.2: each byte by itself and behind a blank: which token it is or begins, or which fault it is, and where.
func TestAllEachByte(t *testing.T) {
	count := map[string]int{}
	for b := range 256 {
		text := string([]byte{byte(b)})
		for _, ahead := range []string{"", " ", "\t", "\r", "\n", "//\n", "a ", "\r\n \t"} {
			whole, at := ahead+text, len(ahead)
			var first []api.Token
			if ahead == "a " {
				first = append(first, word("a", 0))
			}
			switch {
			case b == 32 || b == 9 || b == 13 || b == 10:
				count["blank"]++
				isRight(t, whole, first...)
			case 'a' <= b && b <= 'z' || b == 95:
				count["word"]++
				isRight(t, whole, append(first, word(text, at))...)
			case '0' <= b && b <= '9':
				count["number"]++
				isRight(t, whole, append(first, number(text, b-'0', at))...)
			case slices.Contains(allSigns(), text):
				count["sign"]++
				isRight(t, whole, append(first, sign(text, at))...)
			case b == 34:
				count["quote"]++
				isWrong(t, whole, api.ErrQuote, at+1)
			case b == '%' || b == '#' || b == '$':
				count["head"]++
				isWrong(t, whole, api.ErrNumber, at)
			default:
				count["none"]++
				isWrong(t, whole, api.ErrByte, at)
			}
		}
	}
	for what, want := range map[string]int{"blank": 4, "word": 27, "number": 10, "sign": 14, "quote": 1, "head": 3, "none": 197} {
		if count[what] != 8*want {
			t.Errorf("%d of %s; want %d", count[what]/8, what, want)
		}
	}
}

// 9.1, 9.2: each pair of bytes, by itself and within others, against the model.
func TestAllEachPair(t *testing.T) {
	for a := range 256 {
		for b := range 256 {
			pair := string([]byte{byte(a), byte(b)})
			asModel(t, pair)
			asModel(t, "a"+pair+"1")
		}
	}
}

// 9.1, R5: of several that are wrong the first one is told, whichever they are.
func TestAllFirst(t *testing.T) {
	wrongs := []struct {
		text string
		code api.Code
		off  int
	}{
		{"?", api.ErrByte, 0}, {"A", api.ErrByte, 0}, {"/", api.ErrByte, 0}, {"\x00", api.ErrByte, 0}, {"\xff", api.ErrByte, 0},
		{strings.Repeat("a", 25), api.ErrLong, 0}, {"01", api.ErrNumber, 0}, {"9223372036854775809", api.ErrRange, 0},
		{"%", api.ErrNumber, 0}, {"%01", api.ErrNumber, 0}, {"%2147483648", api.ErrRange, 0}, {"#", api.ErrNumber, 0},
		{"#2147483648", api.ErrRange, 0}, {"$", api.ErrNumber, 0}, {"$y1", api.ErrNumber, 0}, {"$g", api.ErrNumber, 0},
		{"$x00", api.ErrNumber, 0}, {"$x2147483648", api.ErrRange, 0}, {`"\q"`, api.ErrQuote, 1}, {"\"a\n", api.ErrQuote, 2},
		{`"` + strings.Repeat("a", 65) + `"`, api.ErrLong, 65},
	}
	for _, first := range wrongs {
		for _, second := range wrongs {
			isWrong(t, first.text+" "+second.text, first.code, first.off)
			isWrong(t, "b, "+first.text+"\n;"+second.text+"\n", first.code, 3+first.off)
		}
	}
	isWrong(t, "a ? \"", api.ErrByte, 2)
	isWrong(t, "a \" ?", api.ErrQuote, 5)
	isWrong(t, "?a", api.ErrByte, 0)
	isWrong(t, "a // ?\n ?", api.ErrByte, 8)
}

// 9.1: a text of MaxText bytes is read, whatever is in it; of one that is longer ErrLong is told ahead of all else.
func TestAllLong(t *testing.T) {
	const most = 65536
	if api.MaxText != most {
		t.Fatal(api.MaxText)
	}
	isRight(t, strings.Repeat(" ", most))
	isRight(t, strings.Repeat("\n", most))
	isRight(t, strings.Repeat("/", most))
	isRight(t, strings.Repeat("//\r\n", most/4))
	isRight(t, strings.Repeat(" ", most-1)+"a", word("a", most-1))
	isRight(t, "a"+strings.Repeat(" ", most-1), word("a", 0))
	isRight(t, `"`+strings.Repeat("a", 64)+`"`+strings.Repeat("/", most-66), quoted(strings.Repeat("a", 64), 0))
	isWrong(t, strings.Repeat(" ", most-1)+"?", api.ErrByte, most-1)
	isWrong(t, strings.Repeat(" ", most-1)+"\"", api.ErrQuote, most)
	isWrong(t, strings.Repeat(" ", most-2)+"$g", api.ErrNumber, most-2)
	isWrong(t, strings.Repeat("%", most), api.ErrNumber, 0)
	isWrong(t, "?"+strings.Repeat(" ", most-1), api.ErrByte, 0)
	for _, piece := range []string{";", "a ", "..", "%1", "1\n", `""`, "#7 ", "$x9,", "a;//\n", "\"b\"//?\n"} {
		text := strings.Repeat(piece, most/len(piece))
		text += strings.Repeat(" ", most-len(text))
		if !asModel(t, text) {
			t.Errorf("%q again and again is wrong", piece)
		}
		isWrong(t, text+" ", api.ErrLong, 0)
		isWrong(t, text+piece, api.ErrLong, 0)
		isWrong(t, text+text, api.ErrLong, 0)
	}
	for _, piece := range []string{" ", "\n", "/", "a", "0", "1", "?", "%", "$", "\"", ".", "\x00", "\xff"} {
		isWrong(t, strings.Repeat(piece, most+1), api.ErrLong, 0)
		isWrong(t, strings.Repeat(piece, most+2), api.ErrLong, 0)
		isWrong(t, strings.Repeat(piece, 1<<20), api.ErrLong, 0)
		isWrong(t, piece+strings.Repeat(" ", most), api.ErrLong, 0)
		isWrong(t, strings.Repeat(" ", most)+piece, api.ErrLong, 0)
	}
}

// 9.1: all texts of a few bytes, of those that mean something to each other, against the model; and those that are right
// told again (9.3).
func TestAllShort(t *testing.T) {
	var seed source = 9
	for _, c := range []struct {
		bytes string
		most  int
	}{
		{"a0 \n/\"\\%$gx#.-?1_x", 3},
		{"/\n a", 7},
		{"0.1%", 7},
		{"$gx01 ", 6},
		{"\"\\nx0\n", 6},
		{"#%-1.\r", 5},
	} {
		right := 0
		var all func(text string)
		all = func(text string) {
			if asModel(t, text) {
				right++
				tokens := got(t, text).tokens
				again, want := toldAgain(tokens[:len(tokens)-1], seed.gap)
				isRight(t, again, want...)
			}
			if len(text) == c.most {
				return
			}
			for i := range len(c.bytes) {
				all(text + c.bytes[i:i+1])
			}
		}
		all("")
		if right < 20 {
			t.Errorf("%d texts of %q are right", right, c.bytes)
		}
	}
}

// randomToken is a token of any kind.
func (s *source) randomToken() api.Token {
	const letters = "abcdefghijklmnopqrstuvwxyz_"
	const more = letters + "0123456789"
	id := []int{0, 1, 9, 10, s.below(100), s.below(1 << 31), 1<<31 - 1}[s.below(7)]
	text := strconv.Itoa(id)
	switch s.below(8) {
	case 0:
		n := []uint64{0, 1, 10, uint64(s.below(1000)), uint64(s.below(1<<31)) << 32, 1<<63 - 1, 1 << 63}[s.below(7)]
		return number(strconv.FormatUint(n, 10), int(n), 0)
	case 1:
		says := make([]byte, s.below(65))
		for i := range says {
			says[i] = byte(s.below(256))
		}
		return quoted(string(says), 0)
	case 2:
		return vreg("%"+text, id, 0)
	case 3:
		return slot("#"+text, id, 0)
	case 4:
		return gReg("$g"+text, id, 0)
	case 5:
		return xReg("$x"+text, id, 0)
	case 6:
		return sign(allSigns()[s.below(15)], 0)
	}
	text = letters[s.below(27):][:1]
	for range s.below(24) {
		text += more[s.below(37):][:1]
	}
	return word(text, 0)
}

// 9.3: tokens that are told with blanks and remarks between are read as they were, but for where they stand; and those
// that are read are told again with others, and read as the same.
func TestToldAgain(t *testing.T) {
	var seed source = 93
	for range 3000 {
		tokens := make([]api.Token, seed.below(30))
		for i := range tokens {
			tokens[i] = seed.randomToken()
		}
		for _, tail := range []string{"", " ", "\n", "//", "// the end", seed.gap()} {
			text, want := toldAgain(tokens, seed.gap)
			text += tail
			isRight(t, text, want...)
		}
		text, want := toldAgain(tokens, func() string { return " " })
		isRight(t, strings.TrimPrefix(text, " "), shifted(want, -1)...)
	}
}

// shifted is tokens that stand further on.
func shifted(tokens []api.Token, by int) []api.Token {
	var out []api.Token
	for _, token := range tokens {
		out = append(out, moved(token, token.At+by))
	}
	return out
}

// 9.1, 9.2: texts of pieces, right ones and wrong ones, in any order, against the model.
func TestAllRandom(t *testing.T) {
	var seed source = 91
	wrongs := []string{
		"?", "/", "\"", "\\", "\"a\n", "\"\\q\"", "01", "%", "$", "$g", "#", "%2147483648", "9223372036854775809", "A", "\x00", "\xc3",
		strings.Repeat("b", 25), `"` + strings.Repeat("c", 65) + `"`,
	}
	rights := 0
	for range 40000 {
		var text string
		for range seed.below(12) {
			switch seed.below(16) {
			case 0:
				text += wrongs[seed.below(len(wrongs))]
			case 1, 2, 3:
				text += seed.gap()
			default:
				text += told(seed.randomToken())
			}
		}
		if asModel(t, text) {
			rights++
		}
	}
	if rights < 4000 || rights > 36000 {
		t.Errorf("%d texts are right", rights)
	}
}

// R3: each answer is new memory: what is written to one is not seen in another one.
func TestAllNewMemory(t *testing.T) {
	const text = "a 1 %2 \"b\" ;"
	first, err := All(text)
	if err != nil {
		t.Fatal(err)
	}
	want := slices.Clone(first)
	for i := range first {
		first[i] = api.Token{Kind: 99, Text: "?", N: -1, Class: 9, At: -7}
	}
	first = append(first, api.Token{Kind: 98})
	second, err := All(text)
	if err != nil || !slices.Equal(second, want) {
		t.Errorf("All(%q) = %v, %v behind a change of what it answered; want %v", text, second, err, want)
	}
	if first[0].Kind != 99 || first[len(first)-1].Kind != 98 {
		t.Errorf("what was answered first is %v", first)
	}
}

// 9.3: Is asks whether a token is a word or a sign, and of which Text; what else it has counts for nothing.
func TestIs(t *testing.T) {
	texts := []string{"", " ", "A", "?", "%", "$", "#", "nothing", "\x00", "a ", " a", "..."}
	for _, token := range samples() {
		texts = append(texts, token.Text, told(token), token.Text+" ", token.Text+"a")
	}
	for _, token := range append(samples(), api.Token{Kind: api.TokEnd, At: 5}, api.Token{}) {
		for _, text := range texts {
			want := (token.Kind == 1 || token.Kind == 7) && token.Text == text
			token.At += 3
			if got := Is(token, text); got != want {
				t.Errorf("Is(%+v, %q) = %t", token, text, got)
			}
		}
	}
	for _, c := range []struct {
		token api.Token
		text  string
		want  bool
	}{
		{word("add", 4), "add", true},
		{word("add", 4), "ad", false},
		{word("add", 4), "adds", false},
		{word("add", 4), "Add", false},
		{word("add", 4), "", false},
		{sign(";", 0), ";", true},
		{sign(";", 0), ":", false},
		{sign("..", 0), "..", true},
		{sign("..", 0), ".", false},
		{sign(".", 0), "..", false},
		{sign(".", 0), ".", true},
		{number("5", 5, 0), "5", false},
		{quoted("add", 0), "add", false},
		{quoted(";", 0), ";", false},
		{quoted("", 0), "", false},
		{vreg("%1", 1, 0), "%1", false},
		{gReg("$g1", 1, 0), "$g1", false},
		{xReg("$x1", 1, 0), "$x1", false},
		{slot("#1", 1, 0), "#1", false},
		{api.Token{}, "", false},
		{api.Token{Kind: api.TokEnd, Text: "a"}, "a", false},
		{api.Token{Kind: api.TokWord}, "", true},
		{api.Token{Kind: api.TokSign}, "", true},
		{api.Token{Kind: api.TokWord, Text: ";"}, ";", true},
		{api.Token{Kind: api.TokSign, Text: "a", N: 4, Class: 1, At: -8}, "a", true},
		{api.Token{Kind: api.TokWord, Text: "\xff\x00"}, "\xff\x00", true},
	} {
		if got := Is(c.token, c.text); got != c.want {
			t.Errorf("Is(%+v, %q) = %t; want %t", c.token, c.text, got, c.want)
		}
	}
	for _, kind := range []int{math.MinInt64, -7, -1, 0, 8, 9, 17, 1<<32 + 1, 1<<32 + 7, math.MaxInt64} {
		if Is(api.Token{Kind: kind, Text: "a"}, "a") {
			t.Errorf("Is of a token of the kind %d", kind)
		}
	}
}

// 9.3: of the tokens of a text, those that are words and signs are known by their bytes.
func TestIsOfAll(t *testing.T) {
	tokens := got(t, `add ; .. "add" 5 %1`).tokens
	for i, want := range []struct {
		text string
		is   bool
	}{{"add", true}, {";", true}, {"..", true}, {"add", false}, {"5", false}, {"%1", false}, {"", false}} {
		if got := Is(tokens[i], want.text); got != want.is {
			t.Errorf("Is(%+v, %q) = %t", tokens[i], want.text, got)
		}
	}
}

// 9.1 to 9.3: any bytes, against the model; what is right is told again.
func FuzzAll(f *testing.F) {
	for _, text := range []string{
		"", "a ?", "%7 = add $x2, 5;", "// a\n", "\"a\\x41\\n\"", "...", "$g1#2", "9223372036854775808", "01", "\"", "\\", "\xff/",
	} {
		f.Add(text)
	}
	f.Fuzz(func(t *testing.T, text string) {
		if len(text) > api.MaxText {
			isWrong(t, text, api.ErrLong, 0)
			return
		}
		if !asModel(t, text) {
			return
		}
		tokens := got(t, text).tokens
		again, want := toldAgain(tokens[:len(tokens)-1], func() string { return "\n//\x00\n\t" })
		if len(again) <= api.MaxText {
			isRight(t, again, want...)
		}
	})
}
