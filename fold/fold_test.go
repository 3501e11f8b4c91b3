package fold

import (
	"fmt"
	"go/ast"
	"go/parser"
	"go/token"
	"math"
	"math/big"
	"regexp"
	"slices"
	"strconv"
	"strings"
	"testing"

	"dyehouse/api"
	"dyehouse/deci"
	"dyehouse/fault"
	"dyehouse/lex"
)

// Numbers of the document, as they are written.
const (
	most   = "9223372036854775807"
	beyond = "9223372036854775808"
)

// outcome is what Value answers: a value and the place behind it, or a code and where it is wrong.
type outcome struct {
	n, end int
	code   api.Code
	at     int
}

// tokensOf is the tokens of a text, with which nothing is wrong.
func tokensOf(t *testing.T, text string) []api.Token {
	t.Helper()
	l, err := lex.All(text)
	if err != nil {
		t.Fatalf("lex.All(%.90q): %v", text, err)
	}
	return l
}

// told is tokens, as a test's message has them.
func told(l []api.Token) string {
	var text []string
	for _, one := range l {
		text = append(text, one.Text)
	}
	return fmt.Sprintf("%.300q", strings.Join(text, " "))
}

// got is what Value answers; it is held against what else is promised of any answer, too.
func got(t *testing.T, l []api.Token, at int) outcome {
	t.Helper()
	was := slices.Clone(l)
	n, end, err := Value(l, at)
	if !slices.Equal(l, was) {
		t.Fatalf("Value(%s, %d) changed what was handed in", told(was), at)
	}
	if again, place, fault := Value(l, at); again != n || place != end || (fault == nil) != (err == nil) {
		t.Fatalf("Value(%s, %d) = %d, %d, %v; and then %d, %d, %v", told(l), at, n, end, err, again, place, fault)
	}
	if err == nil {
		if end <= at || end >= len(l) {
			t.Fatalf("Value(%s, %d): the place behind is %d", told(l), at, end)
		}
		return outcome{n: n, end: end}
	}
	if n != 0 || end != 0 {
		t.Fatalf("Value(%s, %d) = %d, %d, %v: beside a fault all is zero", told(l), at, n, end, err)
	}
	code, place := fault.Of(err), fault.At(err)
	if want := fmt.Sprintf("%d at %d", code, place); code == api.OK || err.Error() != want || fault.New(code, place) != err {
		t.Fatalf("Value(%s, %d): the fault is %v; want that of 5.1, %s", told(l), at, err, want)
	}
	return outcome{code: code, at: place}
}

// same holds what Value answers of tokens against what is wanted.
func same(t *testing.T, l []api.Token, at int, want outcome) {
	t.Helper()
	if is := got(t, l, at); is != want {
		t.Fatalf("Value(%s, %d) = %+v; want %+v", told(l), at, is, want)
	}
}

// comes holds a text that is a value, all of it, against its number: by itself; and amidst other tokens.
func comes(t *testing.T, text string, n int) {
	t.Helper()
	long := len(tokensOf(t, text)) - 1
	same(t, tokensOf(t, text), 0, outcome{n: n, end: long})
	same(t, tokensOf(t, "a ( "+text+" * 7)"), 2, outcome{n: n, end: 2 + long})
	same(t, tokensOf(t, "- 7 , "+text+" - 1"), 3, outcome{n: n, end: 3 + long})
	same(t, tokensOf(t, text+" "+text), long, outcome{n: n, end: 2 * long})
}

// fails holds a text against what is wrong with it, at a place of its bytes: by itself, and behind other tokens.
func fails(t *testing.T, text string, code api.Code, at int) {
	t.Helper()
	same(t, tokensOf(t, text), 0, outcome{code: code, at: at})
	same(t, tokensOf(t, "a ( - "+text), 3, outcome{code: code, at: 6 + at})
}

// The model: what the document says of tokens, worked out by rewriting texts in which n is a number, p what stood
// between parentheses, and ? whatever no value has.
var (
	modelInmost = regexp.MustCompile(`\(-?[np](?:[-+*]-?[np])*\)`)
	modelWhole  = regexp.MustCompile(`\A(?:-?n|p)\z`)
	modelOwn    = regexp.MustCompile(`(?:\A|[-+*(])-n\z`)
)

// modelLetter is a token's letter.
func modelLetter(one api.Token) string {
	switch {
	case one.Kind == api.TokNumber:
		return "n"
	case one.Kind == api.TokSign && strings.Contains("-+*()", one.Text):
		return one.Text
	}
	return "?"
}

// modelIs tells whether letters are a value.
func modelIs(letters string) bool {
	for modelInmost.MatchString(letters) {
		letters = modelInmost.ReplaceAllString(letters, "p")
	}
	return modelWhole.MatchString(letters)
}

// modelOpen is how many parentheses are open behind letters.
func modelOpen(letters string) int {
	return strings.Count(letters, "(") - strings.Count(letters, ")")
}

// modelGoes tells whether letters are a value's, or go on to one: what is open can be closed, behind a number, or now.
func modelGoes(letters string) bool {
	open := modelOpen(letters)
	if open < 0 || strings.Contains(letters, "?") {
		return false
	}
	closing := strings.Repeat(")", open)
	return modelIs(letters+closing) || modelIs(letters+"n"+closing)
}

// model is what Value must answer.
func model(t *testing.T, l []api.Token, at int) outcome {
	t.Helper()
	if len(l) == 0 || at < 0 || at > len(l)-1 || l[len(l)-1].Kind != api.TokEnd {
		return outcome{code: api.ErrArg}
	}
	letters := ""
	for i := at; ; i++ {
		letters += modelLetter(l[i])
		switch {
		case !modelGoes(letters):
			return outcome{code: api.ErrSyntax, at: l[i].At}
		case l[i].Text == beyond && !modelOwn.MatchString(letters):
			return outcome{code: api.ErrRange, at: l[i].At}
		case modelOpen(letters) > 32:
			return outcome{code: api.ErrDepth, at: l[i].At}
		case modelIs(letters):
			return outcome{n: modelValue(t, l[at:i+1]), end: i + 1}
		}
	}
}

// modelValue is what tokens come to, by Go's own reading of them, in numbers of any size.
func modelValue(t *testing.T, l []api.Token) int {
	t.Helper()
	var text []string
	for _, one := range l {
		text = append(text, one.Text)
	}
	read, err := parser.ParseExpr(strings.Join(text, " "))
	if err != nil {
		t.Fatalf("the model can't read %s: %v", told(l), err)
	}
	return round(modelReckon(t, read))
}

// modelReckon is what an expression of Go's comes to.
func modelReckon(t *testing.T, read ast.Expr) *big.Int {
	t.Helper()
	made := new(big.Int)
	switch x := read.(type) {
	case *ast.ParenExpr:
		return modelReckon(t, x.X)
	case *ast.BasicLit:
		made.SetString(x.Value, 10)
	case *ast.UnaryExpr:
		made.Neg(modelReckon(t, x.X))
	case *ast.BinaryExpr:
		a, b := modelReckon(t, x.X), modelReckon(t, x.Y)
		switch x.Op {
		case token.ADD:
			made.Add(a, b)
		case token.SUB:
			made.Sub(a, b)
		case token.MUL:
			made.Mul(a, b)
		default:
			t.Fatalf("the model knows no %v", x.Op)
		}
	default:
		t.Fatalf("the model knows no %T", read)
	}
	return made
}

// round is a number of any size, gone round to 64 bits.
func round(n *big.Int) int {
	rest := new(big.Int).And(n, new(big.Int).SetUint64(math.MaxUint64))
	return int(rest.Uint64())
}

// asModel holds Value against the model, and tells whether there is a value.
func asModel(t *testing.T, l []api.Token, at int) bool {
	t.Helper()
	want := model(t, l, at)
	same(t, l, at, want)
	return want.code == api.OK
}

// source hands out numbers that are the same in each run.
type source uint64

func (s *source) below(n int) int {
	*s = *s*6364136223846793005 + 1442695040888963407
	return int(uint64(*s) >> 33 % uint64(n))
}

// digits is a number as it is written, and its value; edges come often.
func (s *source) digits() (string, *big.Int) {
	n := new(big.Int)
	switch s.below(4) {
	case 0:
		n.SetInt64(int64(s.below(10)))
	case 1:
		n.SetUint64(uint64(1)<<s.below(63) - uint64(s.below(2)))
	case 2:
		n.SetString(most, 10)
		n.Sub(n, big.NewInt(int64(s.below(4))))
	default:
		n.SetUint64((uint64(s.below(1<<31))<<31 | uint64(s.below(1<<31))) >> s.below(62))
	}
	return n.String(), n
}

// factor is a factor's pieces, and what it comes to; up to that many parentheses may be opened in it.
func (s *source) factor(deep int) ([]string, *big.Int) {
	minus := s.below(3) == 0
	var pieces []string
	var n *big.Int
	switch {
	case deep > 0 && s.below(3) == 0:
		pieces, n = s.between(deep)
	case minus && s.below(6) == 0:
		pieces, n = []string{beyond}, new(big.Int).Lsh(big.NewInt(1), 63)
	default:
		var text string
		text, n = s.digits()
		pieces = []string{text}
	}
	if minus {
		return append([]string{"-"}, pieces...), new(big.Int).Neg(n)
	}
	return pieces, n
}

// between is the pieces of an expression between parentheses, and what it comes to.
func (s *source) between(deep int) ([]string, *big.Int) {
	pieces, sum := []string{"("}, new(big.Int)
	for i := range 1 + s.below(4) {
		takes := i > 0 && s.below(2) == 0
		if i > 0 {
			pieces = append(pieces, map[bool]string{true: "-", false: "+"}[takes])
		}
		product := big.NewInt(1)
		for j := range 1 + s.below(3) {
			if j > 0 {
				pieces = append(pieces, "*")
			}
			more, n := s.factor(deep - 1)
			pieces = append(pieces, more...)
			product = new(big.Int).Mul(product, n)
		}
		if takes {
			product = new(big.Int).Neg(product)
		}
		sum = new(big.Int).Add(sum, product)
	}
	return append(pieces, ")"), sum
}

// joined is pieces as a text, with blanks and remarks between some of them.
func (s *source) joined(pieces []string) string {
	gaps := []string{"", "", " ", "\n", "\t \r\n", "// (1 + 2\n", " //)\n "}
	var text strings.Builder
	for _, piece := range pieces {
		text.WriteString(gaps[s.below(len(gaps))])
		text.WriteString(piece)
	}
	return text.String()
}

// changed is pieces, of which one is another one now, is gone, is there twice, or has another one ahead.
func (s *source) changed(pieces []string) []string {
	others := []string{"-", "+", "*", "(", ")", "5", beyond, "a", ",", "%1", "$g1", "#1", `"("`, ".", "[", "="}
	other := others[s.below(len(others))]
	at := s.below(len(pieces))
	made := slices.Clone(pieces)
	switch s.below(4) {
	case 0:
		made[at] = other
	case 1:
		made = slices.Delete(made, at, at+1)
	case 2:
		made = slices.Insert(made, at, made[at])
	default:
		made = slices.Insert(made, at, other)
	}
	return made
}

// strange are the pieces that no value has, one at least of each kind of token.
func strange() []string {
	return []string{
		"a", "_", "n", "func", strings.Repeat("z", 24), `""`, `"5"`, `"("`, `")"`, `"-"`, `"+"`, `"*"`, "%0", "%5", "$g0", "$x5", "#0", "#5",
		"{", "}", "[", "]", ",", ":", ";", "=", ".", "..",
	}
}

// The chapter's example.
func TestExample(t *testing.T) {
	comes(t, "(1 + 2*-(3 - 5))", 5)
}

// 10.1: what is not the place of a token.
func TestNoPlace(t *testing.T) {
	wrong := outcome{code: api.ErrArg}
	for _, text := range []string{"", "5", "-5", "(1+2)", " 5", "\n\n(", "a b c"} {
		l := tokensOf(t, text)
		for _, at := range []int{-1, -2, -len(l), -100, math.MinInt, math.MinInt + 1, len(l), len(l) + 1, 2 * len(l), 100, math.MaxInt} {
			same(t, l, at, wrong)
		}
		if place := got(t, l, len(l)-1); place != (outcome{code: api.ErrSyntax, at: len(text)}) {
			t.Errorf("Value(%s, %d) = %+v: at the end no value begins", told(l), len(l)-1, place)
		}
	}
	for _, at := range []int{0, 1, -1, 7, math.MaxInt, math.MinInt} {
		same(t, nil, at, wrong)
		same(t, []api.Token{}, at, wrong)
	}
	same(t, tokensOf(t, ""), 0, outcome{code: api.ErrSyntax})
	same(t, tokensOf(t, " // "), 0, outcome{code: api.ErrSyntax, at: 4})
}

// 10.1: lists whose last token is no end, though there may be one behind the list's length, or amidst.
func TestNoEnd(t *testing.T) {
	wrong := outcome{code: api.ErrArg}
	for _, text := range []string{"5", " -5", "  (1+2)", "(", "  5 a", " a", "7 7", "\n,", "  " + beyond, strings.Repeat("(", 40)} {
		l := tokensOf(t, text)
		for long := 1; long < len(l); long++ {
			for at := -1; at <= long; at++ {
				same(t, l[:long], at, wrong)
				same(t, slices.Clone(l[:long]), at, wrong)
			}
		}
		more := append(slices.Clone(l), api.Token{Kind: api.TokNumber, Text: "1", N: 1, At: 99})
		for at := range more {
			same(t, more, at, wrong)
		}
	}
	for kind := api.TokWord; kind <= api.TokSign; kind++ {
		same(t, []api.Token{{Kind: kind, Text: "1", N: 1, At: 3}}, 0, wrong)
	}
	same(t, []api.Token{{Kind: api.TokEnd, At: 3}}, 0, outcome{code: api.ErrSyntax, at: 3})
}

// R3: what lies behind a list's length is not read: it ends as the list that was handed in does.
func TestBehindLength(t *testing.T) {
	whole := append(tokensOf(t, "(1+2"), tokensOf(t, "*3)")...)
	same(t, whole[:5], 0, outcome{code: api.ErrSyntax, at: 4})
	whole = append(tokensOf(t, "-"), tokensOf(t, "3")...)
	same(t, whole[:2], 0, outcome{code: api.ErrSyntax, at: 1})
}

// 10.1: a number alone, and with a minus ahead.
func TestNumber(t *testing.T) {
	comes(t, "0", 0)
	comes(t, "1", 1)
	comes(t, "7", 7)
	comes(t, "1000000007", 1000000007)
	comes(t, "-0", 0)
	comes(t, "-1", -1)
	comes(t, "- 7", -7)
	comes(t, "-\n// no value\n\t7", -7)
	comes(t, most, math.MaxInt)
	comes(t, "-"+most, -math.MaxInt)
	comes(t, "-"+beyond, math.MinInt)
	comes(t, "- // 2^63\n"+beyond, math.MinInt)
}

// 10.1: a minus that no number is behind: the end, another minus, a parenthesis, anything else.
func TestMinusAlone(t *testing.T) {
	fails(t, "-", api.ErrSyntax, 1)
	fails(t, "- ", api.ErrSyntax, 2)
	fails(t, "--", api.ErrSyntax, 1)
	fails(t, "--7", api.ErrSyntax, 1)
	fails(t, "- -7", api.ErrSyntax, 2)
	fails(t, "---7", api.ErrSyntax, 1)
	fails(t, "--"+beyond, api.ErrSyntax, 1)
	fails(t, "-(7)", api.ErrSyntax, 1)
	fails(t, "-  (1+2)", api.ErrSyntax, 3)
	fails(t, "-(-7)", api.ErrSyntax, 1)
	fails(t, "-"+strings.Repeat("(", 40), api.ErrSyntax, 1)
	fails(t, "-)", api.ErrSyntax, 1)
	fails(t, "-+7", api.ErrSyntax, 1)
	fails(t, "-*7", api.ErrSyntax, 1)
	for _, piece := range strange() {
		fails(t, "- "+piece+" 7", api.ErrSyntax, 2)
	}
}

// 10.1: no value begins with a token of any other kind.
func TestNoBeginning(t *testing.T) {
	for _, piece := range append(strange(), "+", "*", ")") {
		fails(t, piece, api.ErrSyntax, 0)
		fails(t, "  "+piece+" 7)", api.ErrSyntax, 2)
	}
	fails(t, "", api.ErrSyntax, 0)
	fails(t, "+7", api.ErrSyntax, 0)
	fails(t, "*7", api.ErrSyntax, 0)
}

// 10.1: the value at each place of a list, and the place of the token behind it, that of the end among them.
func TestEachPlace(t *testing.T) {
	l := tokensOf(t, "7 - 8 (9 + -2*(3)) a + (5) ) -6")
	wanted := []outcome{
		{n: 7, end: 1},
		{n: -8, end: 3},
		{n: 8, end: 3},
		{n: 3, end: 13},
		{n: 9, end: 5},
		{code: api.ErrSyntax, at: 9},
		{n: -2, end: 8},
		{n: 2, end: 8},
		{code: api.ErrSyntax, at: 13},
		{n: 3, end: 12},
		{n: 3, end: 11},
		{code: api.ErrSyntax, at: 16},
		{code: api.ErrSyntax, at: 17},
		{code: api.ErrSyntax, at: 19},
		{code: api.ErrSyntax, at: 21},
		{n: 5, end: 18},
		{n: 5, end: 17},
		{code: api.ErrSyntax, at: 25},
		{code: api.ErrSyntax, at: 27},
		{n: -6, end: 21},
		{n: 6, end: 21},
		{code: api.ErrSyntax, at: 31},
	}
	if len(l) != len(wanted) {
		t.Fatalf("there are %d tokens", len(l))
	}
	for at, want := range wanted {
		same(t, l, at, want)
		asModel(t, l, at)
	}
}

// 10.1: what stands ahead of a value's first token is none of it: a minus, too.
func TestAhead(t *testing.T) {
	l := tokensOf(t, "-"+beyond)
	same(t, l, 0, outcome{n: math.MinInt, end: 2})
	same(t, l, 1, outcome{code: api.ErrRange, at: 1})
	same(t, tokensOf(t, "-7"), 1, outcome{n: 7, end: 2})
	same(t, tokensOf(t, "--7"), 1, outcome{n: -7, end: 3})
	same(t, tokensOf(t, "-(7)"), 1, outcome{n: 7, end: 4})
	same(t, tokensOf(t, "2*(7)"), 2, outcome{n: 7, end: 5})
	open := tokensOf(t, strings.Repeat("(", 40)+"1"+strings.Repeat(")", 32))
	same(t, open, 7, outcome{code: api.ErrDepth, at: 39})
	same(t, open, 8, outcome{n: 1, end: 73})
	same(t, open, 40, outcome{n: 1, end: 41})
}

// 10.1: 2^63 is too great without a minus just ahead: alone, between parentheses, behind each sign, and where the minus
// is that of a parenthesis, or stands between two products.
func TestTooGreat(t *testing.T) {
	for text, at := range map[string]int{
		"*":               0,
		" *":              1,
		"* a":             0,
		"* - 1":           0,
		"(*)":             1,
		"( * )":           2,
		"((*))":           2,
		"(1 + *)":         5,
		"(1 - *)":         5,
		"(1-*)":           3,
		"(1 x *)":         5,
		"(-1 x *)":        6,
		"(0 - *)":         5,
		"(* + 1)":         1,
		"(* - *)":         1,
		"(* x 0)":         1,
		"(-* + *)":        24,
		"(-* x *)":        24,
		"(-* - *)":        24,
		"(-(*))":          3,
		"(- (*))":         4,
		"(-(1 - 2) - *)":  12,
		"(1 - (*))":       6,
		"(1 - -(*))":      7,
		"(-(* - 1))":      3,
		"(-(-*) - *)":     27,
		"(- // -\n(*))":   9,
		"(1 // -\n + *)":  11,
		"(1 - // -\n *)":  11,
		"(*":              1,
		"(1 - * x":        5,
		"((-*) + (1) x *": 32,
	} {
		// A star stands for 2^63 here, and an x for what a star is elsewhere.
		text = strings.NewReplacer("*", beyond, "x", "*").Replace(text)
		fails(t, text, api.ErrRange, at)
		asModel(t, tokensOf(t, text), 0)
	}
}

// 10.1: 2^63 with a minus just ahead, wherever a factor may stand: that is the least number.
func TestLeast(t *testing.T) {
	const least = "-" + beyond
	comes(t, "("+least+")", math.MinInt)
	comes(t, "(("+least+"))", math.MinInt)
	comes(t, "(1 + "+least+")", math.MinInt+1)
	comes(t, "(1 - "+least+")", math.MinInt+1)
	comes(t, "(0 - "+least+")", math.MinInt)
	comes(t, "(1 * "+least+")", math.MinInt)
	comes(t, "(2 * "+least+")", 0)
	comes(t, "(3 * "+least+")", math.MinInt)
	comes(t, "("+least+" + 1)", math.MinInt+1)
	comes(t, "("+least+" - 1)", math.MaxInt)
	comes(t, "("+least+" * -1)", math.MinInt)
	comes(t, "("+least+" + "+least+")", 0)
	comes(t, "("+least+" - "+least+")", 0)
	comes(t, "("+least+" * "+least+")", 0)
	comes(t, "(-("+least+"))", math.MinInt)
	comes(t, "(-(-("+least+")))", math.MinInt)
}

// 10.1: expressions between parentheses: one number, and sums, differences and products of two, three and more.
func TestExpressions(t *testing.T) {
	for text, n := range map[string]int{
		"(0)": 0, "(5)": 5, "(-5)": -5, "( 5 )": 5, "((5))": 5, "((-5))": -5, "(-(5))": -5, "(-(-5))": 5, "(-(-(5)))": 5,
		"(" + most + ")": math.MaxInt, "(-" + most + ")": -math.MaxInt,
		"(1+2)": 3, "(1-2)": -1, "(2*3)": 6, "(1+-2)": -1, "(1--2)": 3, "(1- -2)": 3, "(2*-3)": -6, "(-2*3)": -6, "(-2*-3)": 6, "(-1-2)": -3,
		"(-1+2)": 1, "(-1--2)": 1, "(0*7)": 0, "(7*0)": 0, "(0-7)": -7, "(0+-7)": -7,
		"(1+2+3)": 6, "(10-2-3)": 5, "(10-2+3)": 11, "(10+2-3)": 9, "(2*3*5)": 30, "(-2*-3*-5)": -30, "(100-20-30-40)": 10,
		"(100-20+30-40+5)": 75, "(2*3*5*7)": 210, "(1+2+3+4+5+6+7+8+9+10)": 55, "(55-1-2-3-4-5-6-7-8-9-10)": 0, "(1*2*3*4*5*6*7*8*9*10)": 3628800,
	} {
		comes(t, text, n)
	}
}

// 10.1: * is done ahead of + and -, these from the left; parentheses within come first; a minus is of its factor alone.
func TestOrder(t *testing.T) {
	for text, n := range map[string]int{
		"(1+2*3)": 7, "(2*3+1)": 7, "(1-2*3)": -5, "(2*3-1)": 5, "(2*3+5*7)": 41, "(2*3-5*7)": -29, "(100-2*3*5-7*2+1)": 57,
		"(1+2*3-4*5+6)": -7, "(7-2*3+4)": 5, "(10-2*2-3)": 3, "(0*5+7)": 7, "(7+0*5)": 7, "(7-0*5+1)": 8,
		"((1+2)*3)": 9, "(2*(3+1))": 8, "(1-(2-3))": 2, "((1-2)-3)": -4, "(1-(2+3))": -4, "(10-(4-(3-2)))": 7, "((2+3)*(5-7))": -10,
		"(2*(3*(4+1)))": 30, "((((1)+2)*3)-4)": 5, "(1+(2*(3-(4+(5*6)))))": -61, "((1)+(2)*(3))": 7,
		"(-(1+2))": -3, "(-(1+2)*3)": -9, "(3*-(1+2))": -9, "(-(1-2)-(3-4))": 2, "(5--(1+2))": 8, "(5+-(1+2))": 2, "(-(2)*-(3))": 6,
		"(-2*3+4)": -2, "(-2+3*4)": 10, "(4+3*-2)": -2, "(4-3*-2)": 10, "(-1*-1-1)": 0, "(-(-(-(7))))": -7, "(-(2*-(3-5)))": -4,
		"(1 + 2*-(3 - 5))": 5, "(2*-(3 - 5)*10 - 1)": 39, "((0))": 0, "(-(3)*(4)-5)": -17,
	} {
		comes(t, text, n)
		asModel(t, tokensOf(t, text), 0)
	}
}

// 10.1: what goes round beyond 64 bits: in sums, differences, products, and with a minus.
func TestRound(t *testing.T) {
	for text, n := range map[string]int{
		"(M+1)": math.MinInt, "(M+M)": -2, "(1+M)": math.MinInt, "(M+2)": math.MinInt + 1, "(M+M+2)": 0, "(M+M+M)": math.MaxInt - 2,
		"(-M-1)": math.MinInt, "(-M-2)": math.MaxInt, "(-M-M)": 2, "(-M-M-2)": 0, "(0-M-2)": math.MaxInt, "(-L-1)": math.MaxInt,
		"(M--1)": math.MinInt, "(M--L)": -1, "(-1--L)": math.MaxInt, "(0--L)": math.MinInt,
		"(M*2)": -2, "(M*M)": 1, "(M*-M)": -1, "(M*3)": math.MaxInt - 2, "(M*M*M)": math.MaxInt, "(M*-L)": math.MinInt, "(-L*-1)": math.MinInt,
		"(-L*2)": 0, "(4294967296*4294967296)": 0, "(4294967296*2147483648)": math.MinInt, "(4294967296*2147483648-1)": math.MaxInt,
		"(4294967295*4294967297)": -1, "(3037000500*3037000500)": -9223372036709301616, "(6364136223846793005*6364136223846793005)": 7520897724310334953,
		"(-(M+1))": math.MinInt, "(-(-L))": math.MinInt, "(-(-(M+1)))": math.MinInt, "(-(M+2))": math.MaxInt, "(-(-L-1))": -math.MaxInt,
		"(M+1-1)": math.MaxInt, "((M+1)*2)": 0, "(1+M*2)": -1, "(M-M*2)": math.MinInt + 1,
	} {
		text = strings.NewReplacer("M", most, "L", beyond).Replace(text)
		comes(t, text, n)
		asModel(t, tokensOf(t, text), 0)
	}
}

// 10.1: without parentheses about there is no expression: a value ends ahead of any sign.
func TestEndsAhead(t *testing.T) {
	for _, behind := range append(strange(), "+", "-", "*", "(", ")", "7", "+ 7", "- 7", "* 7", "(7)", "-7", beyond, "- "+beyond, "))", "((", "") {
		same(t, tokensOf(t, "5 "+behind), 0, outcome{n: 5, end: 1})
		same(t, tokensOf(t, "-5 "+behind), 0, outcome{n: -5, end: 2})
		same(t, tokensOf(t, "(5) "+behind), 0, outcome{n: 5, end: 3})
		same(t, tokensOf(t, "(2 * -(3)) "+behind), 0, outcome{n: -6, end: 8})
		same(t, tokensOf(t, ", -"+beyond+" "+behind), 1, outcome{n: math.MinInt, end: 3})
		same(t, tokensOf(t, strings.Repeat("(", 32)+"5"+strings.Repeat(")", 32)+behind), 0, outcome{n: 5, end: 65})
	}
}

// 10.1: parentheses without anything between them, not closed, and closed too often.
func TestParentheses(t *testing.T) {
	fails(t, "()", api.ErrSyntax, 1)
	fails(t, "( )", api.ErrSyntax, 2)
	fails(t, "(())", api.ErrSyntax, 2)
	fails(t, "(1+())", api.ErrSyntax, 4)
	fails(t, "(-())", api.ErrSyntax, 3)
	fails(t, "(()+1)", api.ErrSyntax, 2)
	fails(t, "((1)())", api.ErrSyntax, 4)
	fails(t, "(", api.ErrSyntax, 1)
	fails(t, "( ", api.ErrSyntax, 2)
	fails(t, "((", api.ErrSyntax, 2)
	fails(t, "(1", api.ErrSyntax, 2)
	fails(t, "(1 // )\n", api.ErrSyntax, 8)
	fails(t, "(-", api.ErrSyntax, 2)
	fails(t, "(-1", api.ErrSyntax, 3)
	fails(t, "(1+", api.ErrSyntax, 3)
	fails(t, "(1*2", api.ErrSyntax, 4)
	fails(t, "((1)", api.ErrSyntax, 4)
	fails(t, "((1+2)*(3)", api.ErrSyntax, 10)
	fails(t, "(-(1)", api.ErrSyntax, 5)
	fails(t, strings.Repeat("(", 32), api.ErrSyntax, 32)
	fails(t, strings.Repeat("(", 32)+"1"+strings.Repeat(")", 31), api.ErrSyntax, 64)
	fails(t, ")", api.ErrSyntax, 0)
	fails(t, ")(", api.ErrSyntax, 0)
	same(t, tokensOf(t, "1)"), 0, outcome{n: 1, end: 1})
	same(t, tokensOf(t, "(1))"), 0, outcome{n: 1, end: 3})
	same(t, tokensOf(t, "((1)))"), 0, outcome{n: 1, end: 5})
	same(t, tokensOf(t, "(1)+2)"), 0, outcome{n: 1, end: 3})
}

// 10.1: signs that lack a factor, ahead or behind; two of them side by side, of which just a minus may be the second.
func TestSigns(t *testing.T) {
	for _, first := range []string{"+", "-", "*"} {
		fails(t, "(1 "+first+")", api.ErrSyntax, 4)
		fails(t, "(1 "+first, api.ErrSyntax, 4)
		fails(t, "(1 + 2 "+first+")", api.ErrSyntax, 8)
		fails(t, "((1 "+first+") * 2)", api.ErrSyntax, 5)
		if first != "-" {
			fails(t, "("+first+" 1)", api.ErrSyntax, 1)
			fails(t, "("+first+")", api.ErrSyntax, 1)
			fails(t, "(2 * ("+first+" 1))", api.ErrSyntax, 6)
			fails(t, "(-"+first+"1)", api.ErrSyntax, 2)
		}
		for _, second := range []string{"+", "*"} {
			fails(t, "(1 "+first+" "+second+" 2)", api.ErrSyntax, 5)
			fails(t, "((1) "+first+second+" (2))", api.ErrSyntax, 6)
		}
		fails(t, "(1 "+first+" - - 2)", api.ErrSyntax, 7)
		fails(t, "(1 "+first+" --(2))", api.ErrSyntax, 6)
		fails(t, "(1 "+first+" -)", api.ErrSyntax, 6)
	}
	fails(t, "(-)", api.ErrSyntax, 2)
	fails(t, "(--1)", api.ErrSyntax, 2)
	fails(t, "(- - 1)", api.ErrSyntax, 3)
	fails(t, "(--(1))", api.ErrSyntax, 2)
	fails(t, "(-(--1))", api.ErrSyntax, 4)
	comes(t, "(1 - - 2)", 3)
	comes(t, "(1 + - 2)", -1)
	comes(t, "(1 * - 2)", -2)
}

// 10.1: each kind of token where a factor must stand, and where a sign or a closing parenthesis must.
func TestStrange(t *testing.T) {
	for _, piece := range strange() {
		fails(t, "("+piece+")", api.ErrSyntax, 1)
		fails(t, "( "+piece, api.ErrSyntax, 2)
		fails(t, "(-"+piece+")", api.ErrSyntax, 2)
		fails(t, "(1 + "+piece+")", api.ErrSyntax, 5)
		fails(t, "(1 - "+piece+")", api.ErrSyntax, 5)
		fails(t, "(1 * "+piece+")", api.ErrSyntax, 5)
		fails(t, "(1 * -"+piece+")", api.ErrSyntax, 6)
		fails(t, "(1 * ("+piece+"))", api.ErrSyntax, 6)
		fails(t, "((1) + "+piece+" 2)", api.ErrSyntax, 7)
	}
	for _, piece := range append(strange(), "7", "0", beyond, "(", "(7)") {
		fails(t, "(1 "+piece+")", api.ErrSyntax, 3)
		fails(t, "(1 "+piece, api.ErrSyntax, 3)
		fails(t, "(-1 "+piece+" 2)", api.ErrSyntax, 4)
		fails(t, "((1) "+piece+")", api.ErrSyntax, 5)
		fails(t, "((1 "+piece+"))", api.ErrSyntax, 4)
		fails(t, "(1 + 2 "+piece+")", api.ErrSyntax, 7)
		fails(t, "(1 * -(2) "+piece+")", api.ErrSyntax, 10)
	}
}

// 10.1: 32 parentheses may be open, and no more: one ahead of the other, with minuses, and where others were closed.
func TestDepth(t *testing.T) {
	for open := 1; open <= 70; open++ {
		ahead, behind := strings.Repeat("(", open), strings.Repeat(")", open)
		twice := "(" + strings.Repeat("-(", open-1)
		factors := strings.Repeat("(1)*(-(2)) + ", 20)
		sums := strings.Repeat("(1+(2)-", open)
		if open <= 32 {
			comes(t, ahead+"7"+behind, 7)
			comes(t, ahead+"-7"+behind, -7)
			comes(t, twice+"7"+behind, 7-14*((open-1)%2))
			same(t, tokensOf(t, ahead), 0, outcome{code: api.ErrSyntax, at: open})
			asModel(t, tokensOf(t, sums+"3"+behind), 0)
			continue
		}
		fails(t, ahead+"7"+behind, api.ErrDepth, 32)
		fails(t, ahead, api.ErrDepth, 32)
		fails(t, twice+"7"+behind, api.ErrDepth, 64)
		fails(t, "("+factors+ahead+"7"+behind+")", api.ErrDepth, 1+len(factors)+31)
	}
	most := strings.Repeat("(", 31)
	comes(t, most+"(1)+(2)*-(3)"+strings.Repeat(")", 31), -5)
	comes(t, most+strings.Repeat("(1)+", 200)+"-(1)"+strings.Repeat(")", 31), 199)
	fails(t, most+"(1)+(2)*-((3))"+strings.Repeat(")", 31), api.ErrDepth, 31+10)
	fails(t, most+"(1)+((2))"+strings.Repeat(")", 31), api.ErrDepth, 31+5)
	fails(t, strings.Repeat("(", 32)+"1)+(2))+((((3", api.ErrDepth, 32+10)
	fails(t, most+"(1(", api.ErrSyntax, 33)
	fails(t, most+"(-(", api.ErrDepth, 33)
	fails(t, most+"(--(", api.ErrSyntax, 33)
}

// 10.1, R5: of several things that are wrong the first one alone is told.
func TestFirst(t *testing.T) {
	deep := strings.Repeat("(", 33)
	fails(t, "("+beyond+" 7", api.ErrRange, 1)
	fails(t, "("+beyond+deep, api.ErrRange, 1)
	fails(t, "(1 7 "+beyond+")", api.ErrSyntax, 3)
	fails(t, "(1 "+deep+")", api.ErrSyntax, 3)
	fails(t, "(1 "+beyond+")", api.ErrSyntax, 3)
	fails(t, "(a "+beyond+deep, api.ErrSyntax, 1)
	fails(t, deep+beyond+" a", api.ErrDepth, 32)
	fails(t, deep+")", api.ErrDepth, 32)
	fails(t, strings.Repeat("(", 32)+")(", api.ErrSyntax, 32)
	fails(t, strings.Repeat("(", 32)+beyond+"(", api.ErrRange, 32)
	fails(t, strings.Repeat("(", 32)+"1 "+beyond, api.ErrSyntax, 34)
	fails(t, "(1 + a + "+beyond, api.ErrSyntax, 5)
	fails(t, "(1 + "+beyond+" + a", api.ErrRange, 5)
	fails(t, "-("+beyond+")", api.ErrSyntax, 1)
	fails(t, "--"+beyond, api.ErrSyntax, 1)
	same(t, tokensOf(t, "a"), 7, outcome{code: api.ErrArg})
	same(t, tokensOf(t, " "+beyond)[:1], 0, outcome{code: api.ErrArg})
}

// 10.1: a fault is at the At of a token, whatever place the token has in the list.
func TestPlaces(t *testing.T) {
	l := tokensOf(t, "(1 + 2 a")
	for i := range l {
		l[i].At = 1000 + 7*i
	}
	same(t, l, 0, outcome{code: api.ErrSyntax, at: 1028})
	same(t, l, 1, outcome{n: 1, end: 2})
	fails(t, "\n\t( // (\n\t1 // 2\n\t\t3)", api.ErrSyntax, 19)
}

// 10.2: each number is the value of its text, also between parentheses.
func TestEachNumber(t *testing.T) {
	var numbers []int
	for bit := range 64 {
		for near := -3; near <= 3; near++ {
			n := int(uint64(1)<<bit) + near
			numbers = append(numbers, n, -n, ^n)
		}
	}
	for n := -1200; n <= 1200; n++ {
		numbers = append(numbers, n)
	}
	for power := 1; power <= 1000000000000000000; power *= 10 {
		numbers = append(numbers, power-1, power, power+1, 1-power, -power, -power-1, 9*power, -9*power)
	}
	s := source(10)
	for range 5000 {
		n := int(uint64(s.below(1<<31))<<33^uint64(s.below(1<<31))<<11^uint64(s.below(1<<31))) >> s.below(64)
		numbers = append(numbers, n, -n)
	}
	for _, n := range numbers {
		text := strconv.Itoa(n)
		if text != deci.Put(n) {
			t.Fatalf("the text of %d is %q", n, deci.Put(n))
		}
		comes(t, text, n)
		comes(t, "("+text+")", n)
		comes(t, "(-("+text+"))", -n)
		comes(t, "(0+"+text+")", n)
		comes(t, "(0-("+text+"))", -n)
	}
}

// lists goes through all lists of pieces, of a length; a number is another one at each place of the list.
func lists(pieces []string, long int, each func(list []string)) {
	numbers := []string{"3", "5", "7", "11", "13", "17", "19", "23", "29"}
	chosen := make([]int, long)
	for {
		list := make([]string, long)
		for i, which := range chosen {
			list[i] = pieces[which]
			if list[i] == "n" {
				list[i] = numbers[i]
			}
		}
		each(list)
		at := long - 1
		for at >= 0 && chosen[at] == len(pieces)-1 {
			chosen[at] = 0
			at--
		}
		if at < 0 {
			return
		}
		chosen[at]++
	}
}

// 10.1: all short lists of tokens, by themselves and behind a parenthesis, against the model.
func TestAllShort(t *testing.T) {
	values, all := 0, 0
	check := func(list []string) {
		if asModel(t, tokensOf(t, strings.Join(list, " ")), 0) {
			values++
		}
		all++
	}
	for long := range 5 {
		lists([]string{"n", beyond, "-", "+", "*", "(", ")", "a"}, long, check)
	}
	for long := range 7 {
		lists([]string{"n", "-", "+", "*", "(", ")"}, long, func(list []string) {
			check(append([]string{"("}, list...))
			check(append(append([]string{"("}, list...), ")"))
		})
	}
	if all < 100000 || values < 4000 {
		t.Errorf("%d values of %d lists", values, all)
	}
}

// 10.1: many expressions, against what they were made of, and against the model.
func TestMany(t *testing.T) {
	s := source(1)
	for range 4000 {
		pieces, n := s.between(1 + s.below(6))
		ahead := strings.Repeat("a , ", s.below(4))
		l := tokensOf(t, ahead+s.joined(pieces)+" "+[]string{"", "+ 1", ")", "* a"}[s.below(4)])
		at := strings.Count(ahead, " ")
		same(t, l, at, outcome{n: round(n), end: at + len(pieces)})
		if is := modelValue(t, l[at:at+len(pieces)]); is != round(n) {
			t.Fatalf("%s comes to %d by the model, and to %d by what it was made of", told(l), is, round(n))
		}
		if len(pieces) < 40 {
			// Rewriting takes its time with long ones.
			asModel(t, l, at)
		}
	}
}

// 10.1: expressions that are deep, and long, against what they were made of.
func TestManyDeep(t *testing.T) {
	s := source(2)
	for range 300 {
		pieces, n := s.between(1)
		for range s.below(32) {
			ahead, more := s.factor(0)
			sum := new(big.Int).Sub(more, n)
			pieces = append(append(append([]string{"("}, ahead...), "-"), pieces...)
			behind, times := s.factor(0)
			pieces = append(append(append(pieces, "+"), behind...), ")")
			n = new(big.Int).Add(sum, times)
		}
		l := tokensOf(t, s.joined(pieces))
		same(t, l, 0, outcome{n: round(n), end: len(pieces)})
	}
	comes(t, "("+strings.Repeat("2*", 60)+"1)", 1<<60)
	comes(t, "("+strings.Repeat("2*", 10000)+"1)", 0)
	comes(t, "("+strings.Repeat("-3*", 7001)+"1)", -5447998101512598947)
	comes(t, "("+strings.Repeat("1-", 10000)+"1)", -9999)
}

// 10.1: many expressions of which something was changed, at each place, against the model.
func TestManyChanged(t *testing.T) {
	s := source(3)
	values, faults := 0, 0
	for range 1500 {
		pieces, _ := s.between(1 + s.below(3))
		for range 1 + s.below(2) {
			if pieces = s.changed(pieces); len(pieces) == 0 {
				break
			}
		}
		l := tokensOf(t, strings.Join(pieces, " "))
		for at := range l {
			if at > 8 {
				break
			}
			if asModel(t, l, at) {
				values++
			} else {
				faults++
			}
		}
	}
	if values < 1000 || faults < 1000 {
		t.Errorf("%d values, %d faults", values, faults)
	}
}

// P0: lists of any tokens, such as layer 9 never tells, too, are read to an end.
func TestAnyTokens(t *testing.T) {
	s := source(4)
	texts := []string{"(", ")", "-", "+", "*", "", "5", "a", "--", "(("}
	numbers := []int{0, 1, -1, 7, math.MaxInt, math.MinInt}
	for range 20000 {
		var l []api.Token
		for range s.below(12) {
			l = append(l, api.Token{
				Kind: s.below(10) - 1, Text: texts[s.below(len(texts))], N: numbers[s.below(len(numbers))],
				Class: s.below(3), At: numbers[s.below(len(numbers))],
			})
		}
		for at := -1; at <= len(l); at++ {
			Value(l, at)
			Value(append(slices.Clone(l), api.Token{}), at)
		}
	}
}
