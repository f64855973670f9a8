package tests

import (
	"fmt"
	"math/rand"
	"regexp"
	"slices"
	"strconv"
	"strings"
	"testing"

	"loop.example/g00697/impl"
)

// signWords is the document's list, kept apart from the program.
var signWords = map[int64]string{
	impl.TmAdd: "+", impl.TmSub: "-", impl.TmMul: "*", impl.TmDiv: "/", impl.TmMod: "%", impl.TmAnd: "&",
	impl.TmOr: "|", impl.TmXor: "^", impl.TmShl: "<<", impl.TmShr: ">>", impl.TmEq: "==", impl.TmLt: "<",
}

// signOf is the Op of a sign, or -1.
func signOf(word string) int64 {
	for op, sign := range signWords {
		if sign == word {
			return op
		}
	}
	return -1
}

// fullest has as many as there may be of each kind: Lows 0 to 2, Secrets 3 to
// 5, Temps 6 to 11, arrays 0 and 1.
func fullest(body ...impl.Stmt) impl.Prog {
	return impl.Prog{
		Width: 8, Lows: maxes(3, 0, 1), Secrets: []impl.Input{{Max: 15, Budget: 99}, {Max: 0, Budget: 0}, {Max: 7, Budget: 10}},
		Temps: 6, Arrays: []int64{6, 1}, Body: body,
	}
}

// variableNames are all names of variables, by their numbers.
func variableNames(p impl.Prog) []string {
	var names []string
	for i := range p.Lows {
		names = append(names, fmt.Sprintf("l%d", i))
	}
	for i := range p.Secrets {
		names = append(names, fmt.Sprintf("s%d", i))
	}
	for i := range p.Temps {
		names = append(names, fmt.Sprintf("t%d", i))
	}
	return names
}

// nameBy writes a name for numbers that have none, too.
func nameBy(p impl.Prog, n int64) string {
	if names := variableNames(p); n >= 0 && n < int64(len(names)) {
		return names[n]
	}
	return fmt.Sprintf("t%d", n-int64(len(p.Lows)+len(p.Secrets)))
}

// written goes along the Terms with a stack of texts. It does not ask whether
// the expression may stand in the Body.
func written(p impl.Prog, e []impl.Term) string {
	var stack []string
	for _, term := range e {
		rest := len(stack) - int(takesByOp[term.Op])
		taken := stack[rest:]
		text := "?"
		switch {
		case term.Op == impl.TmNum:
			text = strconv.FormatInt(term.N, 10)
		case term.Op == impl.TmVar:
			text = nameBy(p, term.N)
		case term.Op == impl.TmCell:
			text = fmt.Sprintf("m%d[%s]", term.N, taken[0])
		case term.Op == impl.TmNot:
			text = "!" + taken[0]
		case term.Op == impl.TmNeg:
			text = "-" + taken[0]
		case signWords[term.Op] != "":
			text = fmt.Sprintf("(%s %s %s)", taken[0], signWords[term.Op], taken[1])
		}
		stack = append(stack[:rest], text)
	}
	return strings.Join(stack, "?")
}

func writtenStmt(p impl.Prog, s impl.Stmt) string {
	switch s.Op {
	case impl.StSet:
		return fmt.Sprintf("%s = %s\n", nameBy(p, s.N), written(p, s.Exp))
	case impl.StPut:
		return fmt.Sprintf("m%d[%s] = %s\n", s.N, written(p, s.At), written(p, s.Exp))
	case impl.StIf:
		return fmt.Sprintf("if %s\n", written(p, s.Exp))
	case impl.StElse:
		return "else\n"
	case impl.StEnd:
		return "end\n"
	case impl.StLoop:
		return fmt.Sprintf("loop %d\n", s.N)
	case impl.StOut:
		return fmt.Sprintf("out %s\n", written(p, s.Exp))
	case impl.StThrow:
		return fmt.Sprintf("throw %d\n", s.N)
	case impl.StTry:
		return "try\n"
	case impl.StCatch:
		return fmt.Sprintf("catch %d\n", s.N)
	}
	return "?\n"
}

// writtenProg does not ask whether the Prog is right.
func writtenProg(p impl.Prog) string {
	text := fmt.Sprintf("width %d\n", p.Width)
	for _, low := range p.Lows {
		text += fmt.Sprintf("low %d\n", low.Max)
	}
	for _, secret := range p.Secrets {
		text += fmt.Sprintf("secret %d %d\n", secret.Max, secret.Budget)
	}
	text += fmt.Sprintf("temps %d\n", p.Temps)
	for _, size := range p.Arrays {
		text += fmt.Sprintf("array %d\n", size)
	}
	var body strings.Builder
	for _, s := range p.Body {
		body.WriteString(writtenStmt(p, s))
	}
	return text + body.String()
}

var numberForm = regexp.MustCompile(`^(0|[1-9][0-9]{0,8})$`)
var tokenForm = regexp.MustCompile(`(?s)[0-9]+|[lstm][0-9]|<<|>>|==|.`)

// No token has as many letters: a symbol with these words was made of some.
const anExp = "expression"
const anArray = "array"

// symbol is what the reader of the tests has on its stack: an expression, the
// name of an array, or a token that stands for itself.
type symbol struct {
	word  string
	array int64
	e     []impl.Term
}

// symbolOf is false for a number or a name that there is not.
func symbolOf(p impl.Prog, token string) (symbol, bool) {
	if token[0] >= '0' && token[0] <= '9' {
		n, err := strconv.ParseInt(token, 10, 64)
		return symbol{word: anExp, e: []impl.Term{num(n)}}, err == nil && numberForm.MatchString(token) && n < 1<<p.Width
	}
	if len(token) == 2 && token[0] == 'm' {
		array := int64(token[1] - '0')
		return symbol{word: anArray, array: array}, array < int64(len(p.Arrays))
	}
	if len(token) == 2 && strings.Contains("lst", token[:1]) {
		n := slices.Index(variableNames(p), token)
		return symbol{word: anExp, e: []impl.Term{variable(int64(n))}}, n >= 0
	}
	return symbol{word: token}, true
}

func endsWith(stack []symbol, words ...string) bool {
	if len(stack) < len(words) {
		return false
	}
	for i, s := range stack[len(stack)-len(words):] {
		if s.word != words[i] {
			return false
		}
	}
	return true
}

// reducedOnce puts together what stands last on the stack; false where that
// is nothing whole.
func reducedOnce(stack []symbol) ([]symbol, bool) {
	n := len(stack)
	switch {
	case endsWith(stack, "!", anExp):
		return append(stack[:n-2], symbol{word: anExp, e: append(stack[n-1].e, sign(impl.TmNot))}), true
	case endsWith(stack, "-", anExp):
		return append(stack[:n-2], symbol{word: anExp, e: append(stack[n-1].e, sign(impl.TmNeg))}), true
	case endsWith(stack, anArray, "[", anExp, "]"):
		return append(stack[:n-4], symbol{word: anExp, e: append(stack[n-2].e, cell(stack[n-4].array))}), true
	}
	for op, word := range signWords {
		if endsWith(stack, "(", anExp, " ", word, " ", anExp, ")") {
			both := slices.Concat(stack[n-6].e, stack[n-2].e, []impl.Term{sign(op)})
			return append(stack[:n-7], symbol{word: anExp, e: both}), true
		}
	}
	return stack, false
}

// readByStack reads an expression from the bottom up.
func readByStack(p impl.Prog, text string) ([]impl.Term, bool) {
	var stack []symbol
	for _, token := range tokenForm.FindAllString(text, -1) {
		next, is := symbolOf(p, token)
		if !is {
			return nil, false
		}
		stack = append(stack, next)
		for again := true; again; {
			stack, again = reducedOnce(stack)
		}
	}
	if len(stack) != 1 || stack[0].word != anExp || len(stack[0].e) > 40 {
		return nil, false
	}
	return stack[0].e, true
}

var lineForms = []*regexp.Regexp{
	regexp.MustCompile(`^(t[0-9]) = (.+)$`), regexp.MustCompile(`^m([0-9])\[(.+)\] = (.+)$`), regexp.MustCompile(`^if (.+)$`),
	regexp.MustCompile(`^else$`), regexp.MustCompile(`^end$`), regexp.MustCompile(`^loop ([0-9]+)$`), regexp.MustCompile(`^out (.+)$`),
	regexp.MustCompile(`^throw ([0-9]+)$`), regexp.MustCompile(`^try$`), regexp.MustCompile(`^catch ([0-9]+)$`),
}

// readStmt reads a line by the form of its Op.
func readStmt(p impl.Prog, line string) (impl.Stmt, bool) {
	for op, form := range lineForms {
		parts := form.FindStringSubmatch(line)
		if parts == nil {
			continue
		}
		s := impl.Stmt{Op: int64(op)}
		right, last := true, parts[len(parts)-1]
		switch op {
		case impl.StSet:
			s.N = int64(slices.Index(variableNames(p), parts[1]))
		case impl.StPut:
			s.N = int64(parts[1][0] - '0')
			s.At, right = readByStack(p, parts[2])
		case impl.StLoop, impl.StThrow, impl.StCatch:
			s.N, _ = strconv.ParseInt(last, 10, 64)
			return s, numberForm.MatchString(last)
		case impl.StElse, impl.StEnd, impl.StTry:
			return s, true
		}
		e, is := readByStack(p, last)
		s.Exp = e
		return s, right && is
	}
	return impl.Stmt{}, false
}

// headKinds: a letter for the kind of each line, b for those of the Body.
var headKinds = map[string]string{"width": "w", "low": "l", "secret": "s", "temps": "t", "array": "a"}
var headOrder = regexp.MustCompile(`^wl*s*ta*b*$`)

// readHead reads a line of the head into the Prog.
func readHead(p *impl.Prog, kind string, words []string) bool {
	numbers := make([]int64, 2)
	for i, word := range words {
		if i >= 2 || !numberForm.MatchString(word) {
			return false
		}
		numbers[i], _ = strconv.ParseInt(word, 10, 64)
	}
	switch kind {
	case "w":
		p.Width = numbers[0]
	case "l":
		p.Lows = append(p.Lows, impl.Input{Max: numbers[0]})
	case "s":
		p.Secrets = append(p.Secrets, impl.Input{Max: numbers[0], Budget: numbers[1]})
		return len(words) == 2
	case "t":
		p.Temps = numbers[0]
	case "a":
		p.Arrays = append(p.Arrays, numbers[0])
	}
	return len(words) == 1
}

// readByLines reads a program line by line, and leaves it to chapter 3 whether
// it is right.
func readByLines(text string) (impl.Prog, bool) {
	if !strings.HasSuffix(text, "\n") {
		return impl.Prog{}, false
	}
	var p impl.Prog
	var body []string
	order, right := "", true
	for line := range strings.SplitSeq(strings.TrimSuffix(text, "\n"), "\n") {
		words := strings.Split(line, " ")
		kind := headKinds[words[0]]
		if kind == "" {
			order += "b"
			body = append(body, line)
			continue
		}
		order += kind
		right = right && readHead(&p, kind, words[1:])
	}
	if !right || !headOrder.MatchString(order) || !impl.ProgOk(p) {
		return impl.Prog{}, false
	}
	for _, line := range body {
		s, is := readStmt(p, line)
		if !is {
			return impl.Prog{}, false
		}
		p.Body = append(p.Body, s)
	}
	return p, impl.ProgOk(p)
}

func clip(text string) string {
	if len(text) > 300 {
		return fmt.Sprintf("%q and %d bytes more", text[:300], len(text)-300)
	}
	return strconv.Quote(text)
}

func sameStmts(a, b impl.Stmt) bool {
	return a.Op == b.Op && a.N == b.N && slices.Equal(a.At, b.At) && slices.Equal(a.Exp, b.Exp)
}

func sameProgs(a, b impl.Prog) bool {
	return a.Width == b.Width && a.Temps == b.Temps && slices.Equal(a.Lows, b.Lows) && slices.Equal(a.Secrets, b.Secrets) &&
		slices.Equal(a.Arrays, b.Arrays) && slices.EqualFunc(a.Body, b.Body, sameStmts)
}

// checkExpText: the text is that of the expression, both ways.
func checkExpText(t *testing.T, p impl.Prog, e []impl.Term, text string) {
	t.Helper()
	if got := impl.ShowExp(p, e); got != text {
		t.Errorf("ShowExp(%v) = %s, want %s", e, clip(got), clip(text))
	}
	if got, is := impl.ReadExp(p, text); !is || !slices.Equal(got, e) {
		t.Errorf("ReadExp(%s) = %v, %v; want %v", clip(text), got, is, e)
	}
}

func checkNoExp(t *testing.T, p impl.Prog, text string) {
	t.Helper()
	if got, is := impl.ReadExp(p, text); is || len(got) != 0 {
		t.Errorf("ReadExp(%s) = %v, %v; want none", clip(text), brief(got), is)
	}
}

// checkAnyExp holds ReadExp against the reader from the bottom up.
func checkAnyExp(t *testing.T, p impl.Prog, text string) {
	t.Helper()
	if e, is := readByStack(p, text); is {
		checkExpText(t, p, e, text)
	} else {
		checkNoExp(t, p, text)
	}
}

// checkProgText: the text is that of the Prog, both ways.
func checkProgText(t *testing.T, p impl.Prog, text string) {
	t.Helper()
	if got := impl.ShowProg(p); got != text {
		t.Errorf("ShowProg(%v) = %s, want %s", p, clip(got), clip(text))
	}
	if got, is := impl.ReadProg(text); !is || !sameProgs(got, p) {
		t.Errorf("ReadProg(%s) = %v, %v; want %v", clip(text), got, is, p)
	}
}

func checkNoProg(t *testing.T, text string) {
	t.Helper()
	if got, is := impl.ReadProg(text); is || !sameProgs(got, impl.Prog{}) {
		t.Errorf("ReadProg(%s) is %v, %v; want none", clip(text), got, is)
	}
}

// checkAnyProg holds ReadProg against the reader by lines, and tells whether
// there is a Prog.
func checkAnyProg(t *testing.T, text string) bool {
	t.Helper()
	p, is := readByLines(text)
	if is {
		checkProgText(t, p, text)
	} else {
		checkNoProg(t, text)
	}
	return is
}

// expCases are written by hand, for roomy.
var expCases = []struct {
	e    []impl.Term
	text string
}{
	{[]impl.Term{num(0)}, "0"}, {[]impl.Term{num(1)}, "1"}, {[]impl.Term{num(7)}, "7"},
	{[]impl.Term{variable(0)}, "l0"}, {[]impl.Term{variable(1)}, "l1"}, {[]impl.Term{variable(2)}, "s0"}, {[]impl.Term{variable(3)}, "s1"},
	{[]impl.Term{variable(4)}, "t0"}, {[]impl.Term{variable(5)}, "t1"},
	{[]impl.Term{num(0), cell(0)}, "m0[0]"}, {[]impl.Term{num(7), cell(1)}, "m1[7]"}, {[]impl.Term{variable(3), cell(1), cell(0)}, "m0[m1[s1]]"},
	{[]impl.Term{num(1), sign(impl.TmNot)}, "!1"}, {[]impl.Term{num(1), sign(impl.TmNeg)}, "-1"}, {[]impl.Term{num(0), sign(impl.TmNeg)}, "-0"},
	{[]impl.Term{variable(2), sign(impl.TmNot), sign(impl.TmNot)}, "!!s0"}, {[]impl.Term{variable(2), sign(impl.TmNeg), sign(impl.TmNeg)}, "--s0"},
	{[]impl.Term{variable(2), sign(impl.TmNeg), sign(impl.TmNot)}, "!-s0"}, {[]impl.Term{variable(2), sign(impl.TmNot), sign(impl.TmNeg)}, "-!s0"},
	{[]impl.Term{num(2), cell(1), sign(impl.TmNot)}, "!m1[2]"}, {[]impl.Term{num(2), sign(impl.TmNot), cell(1)}, "m1[!2]"},
	{[]impl.Term{num(1), num(2), sign(impl.TmAdd)}, "(1 + 2)"}, {[]impl.Term{num(2), num(1), sign(impl.TmSub)}, "(2 - 1)"},
	{[]impl.Term{num(1), num(2), sign(impl.TmMul)}, "(1 * 2)"}, {[]impl.Term{num(1), num(2), sign(impl.TmDiv)}, "(1 / 2)"},
	{[]impl.Term{num(1), num(2), sign(impl.TmMod)}, "(1 % 2)"}, {[]impl.Term{num(1), num(2), sign(impl.TmAnd)}, "(1 & 2)"},
	{[]impl.Term{num(1), num(2), sign(impl.TmOr)}, "(1 | 2)"}, {[]impl.Term{num(1), num(2), sign(impl.TmXor)}, "(1 ^ 2)"},
	{[]impl.Term{num(1), num(2), sign(impl.TmShl)}, "(1 << 2)"}, {[]impl.Term{num(1), num(2), sign(impl.TmShr)}, "(1 >> 2)"},
	{[]impl.Term{num(1), num(2), sign(impl.TmEq)}, "(1 == 2)"}, {[]impl.Term{num(1), num(2), sign(impl.TmLt)}, "(1 < 2)"},
	{[]impl.Term{num(1), num(2), sign(impl.TmNeg), sign(impl.TmSub)}, "(1 - -2)"}, {[]impl.Term{num(1), sign(impl.TmNeg), num(2), sign(impl.TmSub)}, "(-1 - 2)"},
	{[]impl.Term{num(1), num(2), sign(impl.TmSub), sign(impl.TmNeg)}, "-(1 - 2)"}, {[]impl.Term{num(1), num(2), sign(impl.TmEq), sign(impl.TmNot)}, "!(1 == 2)"},
	{[]impl.Term{variable(0), num(2), sign(impl.TmAdd), num(3), sign(impl.TmMul)}, "((l0 + 2) * 3)"},
	{[]impl.Term{variable(0), num(2), num(3), sign(impl.TmMul), sign(impl.TmAdd)}, "(l0 + (2 * 3))"},
	{[]impl.Term{variable(0), num(2), sign(impl.TmLt), num(1), num(3), sign(impl.TmShl), sign(impl.TmAnd)}, "((l0 < 2) & (1 << 3))"},
	{[]impl.Term{variable(0), variable(4), num(2), sign(impl.TmMod), cell(0), sign(impl.TmSub)}, "(l0 - m0[(t0 % 2)])"},
	{[]impl.Term{variable(4), cell(0), variable(5), cell(1), sign(impl.TmXor), cell(1)}, "m1[(m0[t0] ^ m1[t1])]"},
}

func TestExpressionsInWords(t *testing.T) {
	for _, c := range expCases {
		checkExpText(t, roomy(), c.e, c.text)
		checkExpText(t, roomy(told(num(3)), plain(impl.StTry), numbered(impl.StCatch, 1), plain(impl.StEnd)), c.e, c.text)
		if got := written(roomy(), c.e); got != c.text {
			t.Errorf("the tests write %v as %q, want %q", c.e, got, c.text)
		}
		if got, is := readByStack(roomy(), c.text); !is || !slices.Equal(got, c.e) {
			t.Errorf("the tests read %q as %v, %v; want %v", c.text, got, is, c.e)
		}
	}
}

// noExpressions are texts that are none, in roomy nor elsewhere.
var noExpressions = []string{
	"", " ", "  ", "\n", "\t", "\x00", "x", "x0", "L0", "S0", "T0", "M0[1]", "E", "l", "s", "t", "m", "m0", "m1", "u0", "k0", "n0[0]",
	"l2", "s2", "t2", "m2[0]", "l9", "s9", "t9", "m9[0]", "l-1", "l:", "t/", "l 0", "l00", "l01", "t10", "l0l", "l0 ", " l0", "0l", "l0l0", "l0 l0", "1 2", "1,2",
	"8", "9", "10", "70", "255", "256", "00", "01", "07", "000000001", "0000000001", "999999999", "1000000000", "9999999999", "4294967296", "4294967297", "18446744073709551616", "18446744073709551617", "340282366920938463463374607431768211457",
	"+1", "1.0", "1e0", "0x1", "1_0", "0b1", "1_", "1;", "1\n", "\n1", "1\r", "1\t", "1\x00", "\xd9\xa1", "\xef\xbc\x91", "1\xff", "\xff",
	" 1", "1 ", "  1", "( 1 + 2)", "(1  + 2)", "(1 +  2)", "(1 + 2 )", "(1+ 2)", "(1 +2)", "(1+2)", "(1 +\t2)", "(1\t+ 2)", "(1 +\n2)", " (1 + 2)", "(1 + 2) ", "(1 + 2)\n", "(1\u00a0+ 2)",
	"(", ")", "()", "(1)", "((1))", "(l0)", "(-1)", "(!1)", "(m0[0])", "((1 + 2))", "(1 + 2", "1 + 2)", "1 + 2", "((1 + 2)", "(1 + 2))", ")1 + 2(", "[1 + 2]", "{1 + 2}", "(1 + (2))", "((1) + 2)", "(1 + 2]",
	"(1 2)", "(1  2)", "(1 + )", "(1 +)", "( + 2)", "(+ 2)", "(1 + 2 + 3)", "(1 - 2 - 3)", "1 + (2 + 3)", "(1 + 2) + 3", "(1 + 2)(3 + 4)", "(1 + 2) (3 + 4)", "(1 -2)", "(1 - - 2)", "(1 -- 2)", "(1 --2)",
	"(1 ? 2)", "(1 = 2)", "(1 > 2)", "(1 <= 2)", "(1 >= 2)", "(1 != 2)", "(1 === 2)", "(1 && 2)", "(1 || 2)", "(1 ** 2)", "(1 // 2)", "(1 <<< 2)", "(1 >>> 2)", "(1 < < 2)", "(1 ~ 2)", "(1 ! 2)", "(1 : 2)", "(1 ++ 2)", "(1 and 2)",
	"!", "-", "!!", "--", "-!", "! 1", "- 1", "1!", "1-", "!(1)", "-(1)", "-()", "~1", "+(1 + 2)", "!l", "-m0", "!8", "-8",
	"m0[", "m0]", "m0[]", "m0[1", "m0 1]", "m0[1]]", "m0[[1]]", "m0[1][1]", "m0 [1]", "m0[ 1]", "m0[1 ]", "m0(1)", "m0[1)", "m0{1}", "m[1]", "[1]", "m0[(1)]", "m0[8]", "m0[m0]", "m0[1]0", "m00[1]", "m0m0[1]", "m-1[0]", "l0[1]", "1[0]", "m0[1,2]",
	"(1 ? 2 : 3)", "(1 2 3)", "if(1, 2, 3)", "1 ? 2 : 3", "t0 = 1", "out 1", "if 1", "else", "end", "width 3",
}

func TestTextsOfNoExpression(t *testing.T) {
	for _, text := range noExpressions {
		if e, is := readByStack(roomy(), text); is {
			t.Fatalf("the tests read %q as %v", text, e)
		}
		checkNoExp(t, roomy(), text)
		checkNoExp(t, roomy(), "!"+text)
		checkNoExp(t, roomy(), "m0["+text+"]")
		checkNoExp(t, roomy(), "("+text+" + 1)")
		checkNoExp(t, roomy(), "(1 + "+text+")")
		checkNoProg(t, headOfRoomy+"out "+text+"\n")
		checkNoProg(t, headOfRoomy+"t0 = "+text+"\n")
		checkNoProg(t, headOfRoomy+"if "+text+"\nend\n")
		checkNoProg(t, headOfRoomy+"m0["+text+"] = 1\n")
		checkNoProg(t, headOfRoomy+"m0[1] = "+text+"\n")
	}
}

// TestEverySignOfTwoBytes: only those of the list are signs.
func TestEverySignOfTwoBytes(t *testing.T) {
	words := []string{""}
	for a := range 256 {
		words = append(words, string([]byte{byte(a)}))
		for b := range 256 {
			words = append(words, string([]byte{byte(a), byte(b)}))
		}
	}
	found := 0
	for _, word := range words {
		text := "(l0 " + word + " 3)"
		if op := signOf(word); op >= 0 {
			checkExpText(t, roomy(), []impl.Term{variable(0), num(3), sign(op)}, text)
			found++
		} else if strings.TrimRight(word, "!-") != "" || word == "" {
			checkNoExp(t, roomy(), text)
		} else {
			checkAnyExp(t, roomy(), text)
		}
	}
	if found != 12 {
		t.Errorf("%d signs were looked at, want 12", found)
	}
}

// TestNamesOfEachProg goes through all shapes of Prog and all digits.
func TestNamesOfEachProg(t *testing.T) {
	for lows := range int64(4) {
		for secrets := range int64(4) {
			for temps := range int64(7) {
				p := impl.Prog{Width: 1, Lows: make([]impl.Input, lows), Secrets: make([]impl.Input, secrets), Temps: temps}
				for digit := range int64(10) {
					checkName(t, p, "l", digit, 0, lows)
					checkName(t, p, "s", digit, lows, secrets)
					checkName(t, p, "t", digit, lows+secrets, temps)
				}
				checkNoExp(t, p, fmt.Sprintf("t%d", temps+10))
				if got := impl.ShowExp(p, []impl.Term{variable(lows + secrets + temps)}); got != "" {
					t.Errorf("ShowExp of one past the last variable is %q", got)
				}
			}
		}
	}
}

// checkName: of that letter there are so many, from that number on. Only a
// Temp may be set.
func checkName(t *testing.T, p impl.Prog, letter string, digit, first, count int64) {
	t.Helper()
	name := fmt.Sprintf("%s%d", letter, digit)
	head := writtenProg(p)
	if digit >= count {
		checkNoExp(t, p, name)
		checkNoProg(t, head+name+" = 1\n")
		checkNoProg(t, head+"out "+name+"\n")
		return
	}
	e := []impl.Term{variable(first + digit)}
	checkExpText(t, p, e, name)
	outs := p
	outs.Body = []impl.Stmt{told(e...)}
	checkProgText(t, outs, head+"out "+name+"\n")
	if letter != "t" {
		checkNoProg(t, head+name+" = 1\n")
		return
	}
	sets := p
	sets.Body = []impl.Stmt{set(first+digit, one())}
	checkProgText(t, sets, head+name+" = 1\n")
}

func TestNamesOfArrays(t *testing.T) {
	for count := range int64(3) {
		p := impl.Prog{Width: 1, Arrays: slices.Repeat([]int64{6}, int(count))}
		head := writtenProg(p)
		for digit := range int64(10) {
			name := fmt.Sprintf("m%d", digit)
			if digit >= count {
				checkNoExp(t, p, name+"[0]")
				checkNoProg(t, head+name+"[0] = 1\n")
				checkNoProg(t, head+"out "+name+"[0]\n")
				continue
			}
			checkExpText(t, p, []impl.Term{num(0), cell(digit)}, name+"[0]")
			puts := p
			puts.Body = []impl.Stmt{put(digit, []impl.Term{num(0)}, one())}
			checkProgText(t, puts, head+name+"[0] = 1\n")
		}
		if got := impl.ShowExp(p, []impl.Term{num(0), cell(count)}); got != "" {
			t.Errorf("ShowExp of one past the last array is %q", got)
		}
	}
}

func TestAllNamesOfTheFullest(t *testing.T) {
	want := []string{"l0", "l1", "l2", "s0", "s1", "s2", "t0", "t1", "t2", "t3", "t4", "t5"}
	for n, name := range want {
		checkExpText(t, fullest(), []impl.Term{variable(int64(n))}, name)
	}
	for _, name := range []string{"l3", "s3", "t6", "m2[0]", "l4", "s4", "t7", "t9", "l9"} {
		checkNoExp(t, fullest(), name)
	}
}

func TestNumbersOfEachWidth(t *testing.T) {
	for width := int64(1); width <= 8; width++ {
		p := impl.Prog{Width: width}
		for n := range int64(600) {
			text := strconv.FormatInt(n, 10)
			if n < 1<<width {
				checkExpText(t, p, []impl.Term{num(n)}, text)
			} else {
				checkNoExp(t, p, text)
				if got := impl.ShowExp(p, []impl.Term{num(n)}); got != "" {
					t.Errorf("ShowExp of %d at Width %d is %q", n, width, got)
				}
			}
			checkNoExp(t, p, "0"+text)
			checkNoExp(t, p, text+"0000000000")
			checkNoExp(t, p, "00000000"+text)
		}
	}
}

const headOfRoomy = "width 3\nlow 7\nlow 0\nsecret 1 99\nsecret 5 0\ntemps 2\narray 1\narray 6\n"

// noNumbers are none, or greater than any number of a program may be.
var noNumbers = []string{
	"", " ", "00", "01", "02", "007", "000000001", "0000000001", "+1", "-1", "-0", "1 ", " 1", "1 1 1", "1,1", "1.0", "1.", "1e0", "0x1", "0b1", "1_0", "1\t", "\t1", "1\r", "1\x00", "\xd9\xa1", "1\xff", "x", "l0", "t0", "(1)", "!1", "(1 + 1)",
	"256", "999999999", "1000000000", "1000000001", "4294967296", "4294967297", "18446744073709551616", "18446744073709551617",
}

// TestNumbersOfEachLine has each place where a line has a number, or where an
// expression may be one; from which to which it may be there.
func TestNumbersOfEachLine(t *testing.T) {
	places := []struct {
		text        string
		least, most int64
		exp         bool
	}{
		{"width #\ntemps 0\n", 1, 8, false},
		{"width 3\nlow #\ntemps 0\n", 0, 7, false}, {"width 8\nlow 0\nlow #\nlow 0\ntemps 0\n", 0, 255, false},
		{"width 3\nsecret # 5\ntemps 0\n", 0, 7, false}, {"width 3\nsecret 5 #\ntemps 0\n", 0, 99, false}, {"width 1\nlow 1\nsecret 1 1\nsecret 0 #\ntemps 0\n", 0, 99, false},
		{"width 3\ntemps #\n", 0, 6, false}, {"width 3\ntemps 0\narray #\n", 1, 6, false}, {"width 3\ntemps 1\narray 1\narray #\n", 1, 6, false},
		{"width 3\ntemps 0\nloop #\nend\n", 0, 4, false}, {"width 3\ntemps 0\nthrow #\n", 0, 9, false}, {"width 3\ntemps 0\ntry\ncatch #\nend\n", 0, 9, false},
		{"width 3\ntemps 0\nout #\n", 0, 7, true}, {"width 5\ntemps 1\nt0 = #\n", 0, 31, true}, {"width 3\ntemps 0\narray 2\nm0[#] = 1\n", 0, 7, true}, {"width 3\ntemps 0\nif #\nend\n", 0, 7, true},
	}
	for _, place := range places {
		for n := range int64(300) {
			text := strings.Replace(place.text, "#", strconv.FormatInt(n, 10), 1)
			p, is := impl.ReadProg(text)
			if is != (n >= place.least && n <= place.most) {
				t.Errorf("ReadProg(%q) is %v", text, is)
			}
			if is && impl.ShowProg(p) != text {
				t.Errorf("ShowProg of what was read of %q is %q", text, impl.ShowProg(p))
			}
		}
		for _, word := range noNumbers {
			text := strings.Replace(place.text, "#", word, 1)
			if read := checkAnyProg(t, text); read && !place.exp {
				t.Errorf("ReadProg(%q) is true", text)
			}
		}
	}
}

// TestEachLine has the line of each Op, in words written by hand.
func TestEachLine(t *testing.T) {
	cases := []struct {
		s    impl.Stmt
		line string
	}{
		{set(4, one()), "t0 = 1"}, {set(5, []impl.Term{variable(4), num(2), sign(impl.TmShl)}), "t1 = (t0 << 2)"},
		{put(0, one(), []impl.Term{num(2)}), "m0[1] = 2"}, {put(1, []impl.Term{variable(5), sign(impl.TmNot)}, []impl.Term{variable(2), num(3), sign(impl.TmEq), sign(impl.TmNeg)}), "m1[!t1] = -(s0 == 3)"},
		{put(1, []impl.Term{num(0), cell(1)}, []impl.Term{num(0), cell(0), num(1), cell(1), sign(impl.TmEq)}), "m1[m1[0]] = (m0[0] == m1[1])"},
		{asked(variable(2)), "if s0"}, {asked(num(0), cell(0), num(3), sign(impl.TmLt)), "if (m0[0] < 3)"}, {plain(impl.StElse), "else"}, {plain(impl.StEnd), "end"},
		{numbered(impl.StLoop, 0), "loop 0"}, {numbered(impl.StLoop, 4), "loop 4"}, {told(num(7)), "out 7"}, {told(variable(3), sign(impl.TmNeg)), "out -s1"},
		{numbered(impl.StThrow, 0), "throw 0"}, {numbered(impl.StThrow, 9), "throw 9"}, {plain(impl.StTry), "try"}, {numbered(impl.StCatch, 0), "catch 0"}, {numbered(impl.StCatch, 9), "catch 9"},
	}
	ops := map[int64]bool{}
	for _, c := range cases {
		ops[c.s.Op] = true
		body := closedBody(c.s)
		lines := map[int]string{0: "", 1: ""}
		for i, s := range body {
			lines[i] = writtenStmt(roomy(), s)
			if sameStmts(s, c.s) {
				lines[i] = c.line + "\n"
			}
		}
		checkProgText(t, roomy(body...), headOfRoomy+lines[0]+lines[1]+lines[2])
	}
	if len(ops) != 10 {
		t.Errorf("lines of %d Ops, want 10", len(ops))
	}
}

func TestOrdinaryTexts(t *testing.T) {
	checkProgText(t, impl.Prog{Width: 1}, "width 1\ntemps 0\n")
	checkProgText(t, roomy(), headOfRoomy)
	checkProgText(t, fullest(), "width 8\nlow 3\nlow 0\nlow 1\nsecret 15 99\nsecret 0 0\nsecret 7 10\ntemps 6\narray 6\narray 1\n")
	checkProgText(t, impl.Prog{Width: 2, Lows: maxes(3)}, "width 2\nlow 3\ntemps 0\n")
	checkProgText(t, impl.Prog{Width: 2, Secrets: maxes(3)}, "width 2\nsecret 3 0\ntemps 0\n")
	checkProgText(t, impl.Prog{Width: 2, Temps: 6}, "width 2\ntemps 6\n")
	checkProgText(t, impl.Prog{Width: 2, Arrays: []int64{4}}, "width 2\ntemps 0\narray 4\n")
	checkProgText(t, impl.Prog{Width: 4, Lows: maxes(9), Secrets: []impl.Input{{Max: 15, Budget: 1}}, Temps: 1, Body: []impl.Stmt{
		set(2, []impl.Term{variable(0), variable(1), sign(impl.TmLt)}),
		asked(variable(2)), told(num(1)), plain(impl.StElse), told(num(0)), plain(impl.StEnd),
	}}, "width 4\nlow 9\nsecret 15 1\ntemps 1\nt0 = (l0 < s0)\nif t0\nout 1\nelse\nout 0\nend\n")
	checkProgText(t, roomy(
		plain(impl.StTry), numbered(impl.StLoop, 2), asked(variable(2)), numbered(impl.StThrow, 3), plain(impl.StEnd), plain(impl.StEnd),
		numbered(impl.StCatch, 3), put(1, one(), []impl.Term{variable(0)}), plain(impl.StEnd), told(num(1), cell(1)),
	), headOfRoomy+"try\nloop 2\nif s0\nthrow 3\nend\nend\ncatch 3\nm1[1] = l0\nend\nout m1[1]\n")
}

// longText has each kind of line, and each kind of Term.
const longText = "width 3\nlow 2\nlow 0\nsecret 7 1\nsecret 1 0\ntemps 2\narray 4\narray 1\nt1 = ((l0 + s1) << 2)\nm0[!t1] = -(s0 == 3)\n" +
	"if (t0 < m1[2])\nout (7 | 0)\nelse\nend\nloop 3\nt0 = (t0 - -1)\nend\ntry\nthrow 4\ncatch 4\nout m0[(s1 % 2)]\nend\n"

func TestTextsOfNoProgram(t *testing.T) {
	for name, text := range map[string]string{
		"nothing": "", "a byte 10": "\n", "a blank": " ", "no temps": "width 3\n", "no width": "temps 0\n", "no byte 10 at the end": "width 3\ntemps 0", "no byte 10 between": "width 3temps 0\n", "a blank for a byte 10": "width 3 temps 0\n",
		"an empty line behind": "width 3\ntemps 0\n\n", "an empty line ahead": "\nwidth 3\ntemps 0\n", "an empty line between": "width 3\n\ntemps 0\n", "an empty line in the Body": "width 3\ntemps 0\nout 1\n\nout 1\n", "two behind": "width 3\ntemps 0\nout 1\n\n\n",
		"a byte 13": "width 3\r\ntemps 0\r\n", "a byte 13 alone": "width 3\rtemps 0\r", "a byte 0 at the end": "width 3\ntemps 0\n\x00", "a mark ahead": "\xef\xbb\xbfwidth 3\ntemps 0\n",
		"temps ahead of width": "temps 0\nwidth 3\n", "two widths": "width 3\nwidth 3\ntemps 0\n", "two temps": "width 3\ntemps 0\ntemps 0\n", "a width behind": "width 3\ntemps 0\nwidth 3\n",
		"a low ahead": "low 1\nwidth 3\ntemps 0\n", "a low behind a secret": "width 3\nsecret 1 1\nlow 1\ntemps 0\n", "a low behind temps": "width 3\ntemps 0\nlow 1\n", "a secret behind temps": "width 3\ntemps 0\nsecret 1 1\n",
		"a secret ahead": "secret 1 1\nwidth 3\ntemps 0\n", "a low between secrets": "width 3\nsecret 1 1\nlow 1\nsecret 1 1\ntemps 0\n", "an array ahead of temps": "width 3\narray 1\ntemps 0\n", "an array behind a Stmt": "width 3\ntemps 0\nout 1\narray 1\n", "a Stmt ahead of temps": "width 3\nout 1\ntemps 0\n", "a Stmt ahead of all": "out 1\nwidth 3\ntemps 0\n",
		"a Stmt ahead of an array": "width 3\ntemps 0\nout 1\narray 1\nout 1\n", "temps behind a Stmt": "width 3\nout 1\ntemps 0\nout 1\n",
		"a low with a Budget": "width 3\nlow 1 0\ntemps 0\n", "a secret with none": "width 3\nsecret 1\ntemps 0\n", "a secret with two": "width 3\nsecret 1 1 1\ntemps 0\n", "a width with no number": "width\ntemps 0\n", "temps with two numbers": "width 3\ntemps 0 0\n", "an array with two sizes": "width 3\ntemps 0\narray 1 1\n",
		"capitals": "Width 3\ntemps 0\n", "capitals of all": "WIDTH 3\nTEMPS 0\n", "a word too long": "widths 3\ntemps 0\n", "a word too short": "width 3\ntemp 0\n", "a colon": "width: 3\ntemps: 0\n", "an equals sign": "width = 3\ntemps = 0\n",
		"no blank": "width3\ntemps 0\n", "a blank ahead": " width 3\ntemps 0\n", "a blank behind": "width 3 \ntemps 0\n", "two blanks": "width  3\ntemps 0\n", "a tab": "width\t3\ntemps 0\n", "a blank ahead of a Stmt": "width 3\ntemps 0\n out 1\n", "a blank behind a Stmt": "width 3\ntemps 0\nout 1 \n",
		"only the Body": "out 1\n", "two programs": "width 3\ntemps 0\nwidth 3\ntemps 0\n", "a comment": "width 3\ntemps 0\n# out\n", "a Stmt in a line": "width 3\ntemps 0\nout 1; out 1\n", "two Stmts in a line": "width 3\ntemps 0\nout 1 out 1\n",
	} {
		if p, is := readByLines(text); is {
			t.Fatalf("%s: the tests read %q as %v", name, text, p)
		}
		checkNoProg(t, text)
	}
}

// TestLinesOfNoStmt puts each line into a Body that is right without it, and
// makes sure that what would be nested by it is.
func TestLinesOfNoStmt(t *testing.T) {
	lines := []string{
		"", " ", "t0", "t0 =", "t0 = ", "t0=1", "t0 =1", "t0= 1", "t0  = 1", "t0 =  1", " t0 = 1", "t0 = 1 ", "t0 == 1", "t0 := 1", "t0 + 1", "t2 = 1", "t = 1", "t00 = 1", "T0 = 1", "t0 = 1 = 1", "t0 = t1 = 1", "l0 = 1", "s0 = 1", "x0 = 1", "0 = 1", "t0 = 8", "t0[0] = 1", "t0 = (1)", "1",
		"m0 = 1", "m0[1] =", "m0[1] = ", "m0[1]=1", "m0[1] =1", "m0[1]= 1", "m0[1]  = 1", "m0[1] =  1", "m0 [1] = 1", "m0[ 1] = 1", "m0[1 ] = 1", "m0[] = 1", "m0[1 = 1", "m01] = 1", "m0[1]] = 1", "m0[[1]] = 1", "m0(1) = 1", "m2[1] = 1", "m[1] = 1", "m0[8] = 1", "m0[1] = 8", "m0[1]", "m0[1][1] = 1", "m0[1] = 1 ", " m0[1] = 1", "m0[1] == 1", "m0[1] = m0[1] = 1",
		"out", "out ", "out  1", "out1", "out 1 ", " out 1", "out 1 1", "out 1, 1", "outs 1", "Out 1", "out (1)", "out 8", "out\t1", "out t0 = 1",
		"throw", "throw ", "throw  1", "throw1", "throw 1 ", "throw 10", "throw t0", "throw 01", "throw (1 + 1)", "throws 1", "throw -1", " throw 1", "throw 1 1",
		"skip", "nop", "#", "array 1", "temps 0", "low 1", "secret 1 1", "width 3", "x", "\x00", "\xff", "e", "els", "tr", "o", "ou",
	}
	blocks := []string{
		"if#end", "if #end", "if  1#end", "if1#end", "if 1 #end", " if 1#end", "if 1 then#end", "If 1#end", "if (1)#end", "if 8#end", "if 1# end", "if 1#end ", "if 1#ends", "if 1#End", "if 1#end 1", "if 1#end if", "if 1#END", "if 1#en",
		"if 1#else #end", "if 1# else#end", "if 1#else 1#end", "if 1#elses#end", "if 1#Else#end", "if 1#else if 1#end", "if 1#els#end",
		"loop#end", "loop #end", "loop  1#end", "loop1#end", "loop 1 #end", " loop 1#end", "loop 5#end", "loop 01#end", "loop t0#end", "loop -1#end", "loops 1#end", "loop 1 1#end", "loop (1 + 1)#end",
		"try #catch 1#end", " try#catch 1#end", "try 1#catch 1#end", "Try#catch 1#end", "tries#catch 1#end", "try#catch#end", "try#catch #end", "try#catch  1#end", "try#catch1#end", "try#catch 1 #end", "try# catch 1#end", "try#catch 10#end", "try#catch 01#end", "try#catch t0#end", "try#catch 1 1#end", "try#catches 1#end",
	}
	for _, block := range blocks {
		lines = append(lines, strings.ReplaceAll(block, "#", "\n"))
	}
	for _, line := range lines {
		for _, text := range []string{headOfRoomy + line + "\n", headOfRoomy + "out 1\n" + line + "\nout 1\n", headOfRoomy + "loop 2\n" + line + "\nend\n"} {
			if p, is := readByLines(text); is {
				t.Fatalf("the tests read %q as %v", text, p)
			}
			checkNoProg(t, text)
		}
	}
}

func TestLinesOutOfTheirOrder(t *testing.T) {
	lines := strings.SplitAfter(longText, "\n")
	lines = lines[:len(lines)-1]
	if p, is := readByLines(longText); !is {
		t.Fatalf("the tests do not read %q: %v", longText, p)
	}
	checkAnyProg(t, longText)
	for i := range lines {
		checkAnyProg(t, strings.Join(slices.Delete(slices.Clone(lines), i, i+1), ""))
		checkAnyProg(t, strings.Join(lines[:i], ""))
		checkAnyProg(t, strings.Join(lines[i:], ""))
		checkAnyProg(t, strings.TrimSuffix(strings.Join(lines[:i+1], ""), "\n"))
		for k := range lines {
			checkAnyProg(t, strings.Join(slices.Insert(slices.Clone(lines), k, lines[i]), ""))
			swapped := slices.Clone(lines)
			swapped[i], swapped[k] = swapped[k], swapped[i]
			checkAnyProg(t, strings.Join(swapped, ""))
		}
	}
}

// nearby calls with each text that is one byte off: one less, one doubled, two
// swapped, one of these more or in place of one.
func nearby(text string, bytes string, call func(text string)) {
	for i := range len(text) + 1 {
		call(text[:i])
		call(text[i:])
		for k := range len(bytes) {
			call(text[:i] + bytes[k:k+1] + text[i:])
			if i < len(text) {
				call(text[:i] + bytes[k:k+1] + text[i+1:])
			}
		}
		if i < len(text) {
			call(text[:i] + text[i+1:])
			call(text[:i+1] + text[i:])
		}
		if i+1 < len(text) {
			call(text[:i] + text[i+1:i+2] + text[i:i+1] + text[i+2:])
		}
	}
}

const textBytes = "\n\t\r\x00 0123789lstmx()[]!-+*/%&|^<>=?,\xff"

func allBytes() string {
	all := make([]byte, 256)
	for i := range all {
		all[i] = byte(i)
	}
	return string(all)
}

func TestExpressionsOneByteOff(t *testing.T) {
	for _, c := range expCases {
		nearby(c.text, textBytes, func(text string) { checkAnyExp(t, roomy(), text) })
	}
	nearby("(-l0 << m1[(t1 % 2)])", allBytes(), func(text string) { checkAnyExp(t, roomy(), text) })
}

func TestProgramsOneByteOff(t *testing.T) {
	nearby(longText, textBytes, func(text string) { checkAnyProg(t, text) })
	nearby("width 2\nlow 1\nsecret 3 1\ntemps 1\narray 2\nt0 = !s0\nm0[l0] = 1\nout (t0 < 2)\n", allBytes(), func(text string) { checkAnyProg(t, text) })
}

// checkAllOver goes through all texts of at most so many of the pieces.
func checkAllOver(t *testing.T, pieces []string, most int) {
	t.Helper()
	found := 0
	texts := []string{""}
	for range most {
		var longer []string
		for _, text := range texts {
			for _, piece := range pieces {
				longer = append(longer, text+piece)
			}
		}
		for _, text := range longer {
			if _, is := impl.ReadExp(roomy(), text); is {
				found++
			}
			checkAnyExp(t, roomy(), text)
		}
		texts = longer
	}
	if found < len(pieces) {
		t.Errorf("only %d of the texts over %q were read", found, pieces)
	}
}

func TestShortTextsAllRead(t *testing.T) {
	checkAllOver(t, strings.Split("0|7|8|l|t|m|[|]|(|)| |-|!", "|"), 4)
	checkAllOver(t, []string{"1", "l0", "m0[", "]", "(", ")", " + ", " - ", "-", " "}, 5)
	checkAllOver(t, []string{"2", "(", ")", " < ", "!"}, 7)
}

// longestOnes have exactly MaxTerms Terms, each hung in another way; they may
// stand in the Body of roomy.
func longestOnes() [][]impl.Term {
	not, neg, add := sign(impl.TmNot), sign(impl.TmNeg), sign(impl.TmAdd)
	return [][]impl.Term{
		joined(times(1, num(7)), times(39, not)),
		joined(times(1, variable(5)), times(39, neg)),
		joined(times(1, num(1)), times(19, neg, not), times(1, neg)),
		joined(times(1, variable(0)), times(39, cell(1))),
		joined(times(1, variable(2)), times(19, num(7), sign(impl.TmShl)), times(1, not)),
		joined(times(20, variable(3)), times(19, sign(impl.TmLt)), times(1, neg)),
		joined(times(1, num(1)), times(13, cell(0), num(2), add)),
		joined(times(1, num(1)), times(38, not), times(1, cell(0))),
		joined(times(1, num(1)), times(18, not), times(1, num(2)), times(19, neg), times(1, add)),
	}
}

// checkAtEachPlace: a text with that expression in it is right, or none, where
// it stands alone and at each place of a Stmt.
func checkAtEachPlace(t *testing.T, e []impl.Term, right bool) {
	t.Helper()
	text := written(roomy(), e)
	if right {
		checkExpText(t, roomy(), e, text)
	} else {
		checkNoExp(t, roomy(), text)
		if got := impl.ShowExp(roomy(), e); got != "" {
			t.Errorf("ShowExp of %d Terms %v is %s", len(e), brief(e), clip(got))
		}
	}
	for _, s := range append(holders(e), put(0, e, e)) {
		p := roomy(closedBody(s)...)
		if right {
			checkProgText(t, p, writtenProg(p))
		} else {
			checkNoProg(t, writtenProg(p))
			if got := impl.ShowProg(p); got != "" {
				t.Errorf("ShowProg with %d Terms %v is %s", len(e), brief(e), clip(got))
			}
		}
	}
}

func TestTextsAtTheLimitOfTerms(t *testing.T) {
	for _, e := range longestOnes() {
		if len(e) != impl.MaxTerms {
			t.Fatalf("%v has %d Terms", e, len(e))
		}
		checkAtEachPlace(t, e, true)
		for _, more := range [][]impl.Term{{sign(impl.TmNot)}, {sign(impl.TmNeg)}, {cell(0)}, {num(1), sign(impl.TmAdd)}, times(40, sign(impl.TmNot)), times(3000, sign(impl.TmNeg))} {
			checkAtEachPlace(t, joined(e, more), false)
		}
		checkAtEachPlace(t, joined(one(), e, times(1, sign(impl.TmXor))), false)
		checkAtEachPlace(t, e[:1], true)
	}
	many := longestOnes()
	p := roomy(put(1, many[0], many[5]), told(many[3]...), put(0, many[6], many[7]), set(4, many[8]))
	checkProgText(t, p, writtenProg(p))
}

func TestTextsAtTheLimitOfStmts(t *testing.T) {
	for _, count := range []int{0, 1, 39, 40, 41, 42, 80, 5000} {
		p := roomy(outs(count)...)
		text := headOfRoomy + strings.Repeat("out 0\n", count)
		if count <= 40 {
			checkProgText(t, p, text)
		} else {
			checkNoProg(t, text)
			if got := impl.ShowProg(p); got != "" {
				t.Errorf("ShowProg of %d Stmts is %s", count, clip(got))
			}
		}
	}
	deep := roomy(loops(nil, slices.Repeat([]int64{1}, 20)...)...)
	checkProgText(t, deep, headOfRoomy+strings.Repeat("loop 1\n", 20)+strings.Repeat("end\n", 20))
	checkNoProg(t, headOfRoomy+strings.Repeat("loop 1\n", 20)+strings.Repeat("end\n", 21))
	checkNoProg(t, headOfRoomy+strings.Repeat("loop 1\n", 21)+strings.Repeat("end\n", 21))
}

// TestLongTexts: none of these may lead a reader too deep, or take it long.
func TestLongTexts(t *testing.T) {
	pieces := []string{
		"(", ")", "()", ")(", "[", "]", "[]", "!", "-", "-!", "m0[", "m0[(", "(1 + ", "((1 + 1) + ", "1 + 1)", "(-", "(!", "1", "0", "9", " ", "\n", "l0", "x", "\x00",
		"low 0\n", "secret 0 0\n", "array 1\n", "temps 0\n", "width 1\n", "out 0\n", "end\n", "loop 0\n", "if 1\n", "try\n", "t0 = 1\n", "m0[1] = 1\n", "width 1\ntemps 0\n",
	}
	for _, piece := range pieces {
		for _, count := range []int{41, 1000, 1000000} {
			text := strings.Repeat(piece, count)
			checkNoExp(t, roomy(), text)
			checkNoExp(t, roomy(), text+"1"+strings.Repeat(")", min(count, 1000)))
			checkNoProg(t, text)
			checkNoProg(t, headOfRoomy+"out "+text+"\n")
			checkNoProg(t, headOfRoomy+"m0["+text+"] = 1\n")
			checkNoProg(t, "width 1\n"+text)
			checkNoProg(t, "width "+text+"\ntemps 0\n")
			checkNoProg(t, headOfRoomy+text)
		}
	}
	deep := 1000000
	checkNoExp(t, roomy(), strings.Repeat("(", deep)+"1"+strings.Repeat(" + 1)", deep))
	checkNoExp(t, roomy(), strings.Repeat("(1 + ", deep)+"1"+strings.Repeat(")", deep))
	checkNoExp(t, roomy(), strings.Repeat("m0[", deep)+"1"+strings.Repeat("]", deep))
	checkNoExp(t, roomy(), strings.Repeat("-", deep)+"1")
	checkNoProg(t, "width 1\ntemps 999999999\n"+strings.Repeat("out tx\n", 40))
}

// TestProgramsThatAreNotRight: whatever else is asked of such a Prog.
func TestProgramsThatAreNotRight(t *testing.T) {
	for _, f := range allFaults() {
		p := broken(f)
		if got := impl.ShowProg(p); got != "" {
			t.Errorf("%s: ShowProg is %s", f.name, clip(got))
		}
		for _, e := range [][]impl.Term{one(), {num(0)}, {variable(0)}, {num(0), cell(0)}, {num(1), num(1), sign(impl.TmAdd)}, {sign(impl.TmNot)}, nil} {
			if got := impl.ShowExp(p, e); got != "" {
				t.Errorf("%s: ShowExp(%v) is %s", f.name, e, clip(got))
			}
		}
		for _, text := range []string{"1", "0", "l0", "s0", "t0", "m0[0]", "(1 + 1)", "!1", "", "x"} {
			checkNoExp(t, p, text)
		}
	}
	checkExpText(t, broken(), one(), "1")
	checkNoExp(t, impl.Prog{}, "0")
	checkNoExp(t, impl.Prog{Width: -1}, "0")
}

// TestTextsOfProgramsThatAreNotRight: each text is written as any other one,
// and is refused for the code of the Prog alone.
func TestTextsOfProgramsThatAreNotRight(t *testing.T) {
	const head = "width 2\nlow 3\nsecret 3 1\ntemps 1\narray 2\n"
	deep := strings.Repeat("loop 4\n", 3) + strings.Repeat("out 1\n", 3) + strings.Repeat("end\n", 3)
	cases := []struct {
		code         int64
		wrong, right string
	}{
		{impl.PgWidth, "width 0\ntemps 0\n", "width 1\ntemps 0\n"}, {impl.PgWidth, "width 9\ntemps 0\n", "width 8\ntemps 0\n"}, {impl.PgWidth, "width 64\ntemps 0\n", "width 6\ntemps 0\n"},
		{impl.PgInput, "width 2\nlow 4\ntemps 0\n", "width 2\nlow 3\ntemps 0\n"}, {impl.PgInput, "width 2\nsecret 4 0\ntemps 0\n", "width 2\nsecret 3 0\ntemps 0\n"}, {impl.PgInput, "width 2\nsecret 3 100\ntemps 0\n", "width 2\nsecret 3 99\ntemps 0\n"},
		{impl.PgInput, "width 2\nlow 0\nlow 0\nlow 0\nlow 0\ntemps 0\n", "width 2\nlow 0\nlow 0\nlow 0\ntemps 0\n"}, {impl.PgInput, "width 2\nsecret 0 0\nsecret 0 0\nsecret 0 0\nsecret 0 0\ntemps 0\n", "width 2\nsecret 0 0\nsecret 0 0\nsecret 0 0\ntemps 0\n"},
		{impl.PgInput, "width 8\nlow 255\nsecret 4 0\ntemps 0\n", "width 8\nlow 255\nsecret 3 0\ntemps 0\n"},
		{impl.PgRoom, "width 2\ntemps 7\n", "width 2\ntemps 6\n"}, {impl.PgRoom, "width 2\ntemps 0\narray 0\n", "width 2\ntemps 0\narray 1\n"}, {impl.PgRoom, "width 2\ntemps 0\narray 7\n", "width 2\ntemps 0\narray 6\n"},
		{impl.PgRoom, "width 2\ntemps 0\narray 1\narray 1\narray 1\n", "width 2\ntemps 0\narray 1\narray 1\n"}, {impl.PgRoom, head + strings.Repeat("out 1\n", 41), head + strings.Repeat("out 1\n", 40)},
		{impl.PgStmt, head + "out 4\n", head + "out 3\n"}, {impl.PgStmt, head + "t1 = 1\n", head + "t0 = 1\n"}, {impl.PgStmt, head + "m1[0] = 1\n", head + "m0[0] = 1\n"}, {impl.PgStmt, head + "loop 5\nend\n", head + "loop 4\nend\n"},
		{impl.PgStmt, head + "throw 10\n", head + "throw 9\n"}, {impl.PgStmt, head + "try\ncatch 10\nend\n", head + "try\ncatch 9\nend\n"}, {impl.PgStmt, head + "out t1\n", head + "out t0\n"}, {impl.PgStmt, head + "out m1[0]\n", head + "out m0[0]\n"},
		{impl.PgStmt, head + "out " + strings.Repeat("!", 40) + "1\n", head + "out " + strings.Repeat("!", 39) + "1\n"},
		{impl.PgNest, head + "end\n", head + "loop 1\nend\n"}, {impl.PgNest, head + "if 1\n", head + "if 1\nend\n"}, {impl.PgNest, head + "else\n", head + "if 1\nelse\nend\n"}, {impl.PgNest, head + "catch 1\n", head + "try\ncatch 1\nend\n"},
		{impl.PgNest, head + "if 1\nelse\nelse\nend\n", head + "if 1\nelse\nend\n"}, {impl.PgNest, head + "try\nend\n", head + "try\ncatch 0\nend\n"}, {impl.PgNest, head + "loop 1\nelse\nend\n", head + "loop 1\nend\n"}, {impl.PgNest, head + "loop 1\nif 1\nend\n", head + "loop 1\nif 1\nend\nend\n"},
		{impl.PgSteps, head + "loop 4\n" + deep + "end\n", head + "loop 1\n" + deep + "end\n"}, {impl.PgSteps, head + deep + deep, head + deep},
	}
	codes := map[int64]bool{}
	for _, c := range cases {
		codes[c.code] = true
		checkNoProg(t, c.wrong)
		p, is := readByLines(c.right)
		if !is {
			t.Fatalf("the tests do not read %q", c.right)
		}
		checkProgText(t, p, c.right)
	}
	if len(codes) != 6 {
		t.Errorf("texts of %d codes, want 6", len(codes))
	}
}

// TestTextsOfEachFault writes Progs that are not right. Two faults can't be
// seen in a text, so it is that of another Prog.
func TestTextsOfEachFault(t *testing.T) {
	unseen := []string{"a Budget of a Low", "an At of an StOut"}
	for _, f := range allFaults() {
		if !slices.Contains(unseen, f.name) {
			checkNoProg(t, writtenProg(broken(f)))
		}
	}
}

// TestExpressionsThatMayNotStand has all that chapters 2 and 3 are tested by.
func TestExpressionsThatMayNotStand(t *testing.T) {
	for _, e := range slices.Concat(goodExpressions(), badExpressions()) {
		if mayBeWritten(e) {
			checkExpText(t, roomy(), e, written(roomy(), e))
		} else if got := impl.ShowExp(roomy(), e); got != "" {
			t.Errorf("ShowExp of %d Terms %v is %s", len(e), brief(e), clip(got))
		}
	}
	for _, e := range [][]impl.Term{
		single(sign(impl.TmIf)), append(single(sign(impl.TmIf)), sign(impl.TmNot)), {num(8)}, {num(-1)}, {variable(6)}, {variable(-1)}, {num(0), cell(2)}, {num(0), cell(-1)},
		{num(1), num(8), sign(impl.TmAdd)}, {variable(6), sign(impl.TmNeg)}, {num(1), num(1)}, {sign(impl.TmNot)}, {num(1), {Op: impl.TmNot, N: 1}}, nil, {},
	} {
		if got := impl.ShowExp(roomy(), e); got != "" {
			t.Errorf("ShowExp(%v) is %s", e, clip(got))
		}
	}
}

// grownIn makes an expression of at most that many Terms that may stand in the
// Body of the Prog.
func grownIn(source *rand.Rand, p impl.Prog, size int) []impl.Term {
	op := source.Int63n(impl.TmIf)
	variables := int64(len(p.Lows)+len(p.Secrets)) + p.Temps
	switch {
	case size >= 3 && op >= impl.TmAdd:
		first := grownIn(source, p, 1+source.Intn(size-2))
		return joined(first, grownIn(source, p, size-1-len(first)), times(1, sign(op)))
	case size >= 2 && op >= impl.TmNot:
		return append(grownIn(source, p, size-1), sign(impl.TmNot+source.Int63n(2)))
	case size >= 2 && op == impl.TmCell && len(p.Arrays) > 0:
		return append(grownIn(source, p, size-1), cell(source.Int63n(int64(len(p.Arrays)))))
	case op%2 == 0 && variables > 0:
		return []impl.Term{variable(source.Int63n(variables))}
	}
	return []impl.Term{num(source.Int63n(1 << p.Width))}
}

// grownInputs takes what it uses of the bits that are left.
func grownInputs(source *rand.Rand, width int64, left *int, budget int64) []impl.Input {
	var inputs []impl.Input
	for range source.Intn(4) {
		bits := source.Intn(min(*left, int(width)) + 1)
		*left -= bits
		most := int64(0)
		if bits > 0 {
			most = 1<<(bits-1) + source.Int63n(1<<(bits-1))
		}
		inputs = append(inputs, impl.Input{Max: most, Budget: source.Int63n(budget + 1)})
	}
	return inputs
}

// refitted gives a Stmt of roomy other expressions, and a name that there is.
func refitted(source *rand.Rand, p impl.Prog, s impl.Stmt) impl.Stmt {
	e := func() []impl.Term { return grownIn(source, p, 1+source.Intn(40)) }
	switch {
	case s.Op == impl.StSet && p.Temps > 0:
		return set(int64(len(p.Lows)+len(p.Secrets))+source.Int63n(p.Temps), e())
	case s.Op == impl.StPut && len(p.Arrays) > 0:
		return put(source.Int63n(int64(len(p.Arrays))), e(), e())
	case s.Op == impl.StIf:
		return asked(e()...)
	case s.Op <= impl.StPut || s.Op == impl.StOut:
		return told(e()...)
	}
	return s
}

// grownProg makes a right Prog.
func grownProg(source *rand.Rand) impl.Prog {
	for {
		left := 10
		p := impl.Prog{Width: 1 + source.Int63n(8), Temps: source.Int63n(7)}
		p.Lows = grownInputs(source, p.Width, &left, 0)
		p.Secrets = grownInputs(source, p.Width, &left, 99)
		for range source.Intn(3) {
			p.Arrays = append(p.Arrays, 1+source.Int63n(6))
		}
		for _, s := range grownBody(source, 40) {
			p.Body = append(p.Body, refitted(source, p, s))
		}
		if impl.CodeOf(p) != impl.PgSteps {
			return p
		}
	}
}

func TestReadOfShownIsTheProgram(t *testing.T) {
	source := rand.New(rand.NewSource(7))
	stmts := 0
	for range 3000 {
		p := grownProg(source)
		if !impl.ProgOk(p) {
			t.Fatalf("the tests made a Prog with the code %d: %v", impl.CodeOf(p), p)
		}
		stmts += len(p.Body)
		checkProgText(t, p, writtenProg(p))
		for _, s := range p.Body {
			if len(s.Exp) > 0 {
				checkExpText(t, p, s.Exp, written(p, s.Exp))
			}
		}
	}
	if stmts < 3000 {
		t.Errorf("only %d Stmts in all", stmts)
	}
}

func TestReadOfShownIsTheExpression(t *testing.T) {
	source := rand.New(rand.NewSource(8))
	for range 5000 {
		p := grownProg(source)
		for _, size := range []int{1, 2, 3, 10, 39, 40, 41, 60} {
			e := grownIn(source, p, size)
			if len(e) <= 40 {
				checkExpText(t, p, e, written(p, e))
			} else {
				checkNoExp(t, p, written(p, e))
			}
		}
	}
}

// changedTexts changes the text of a right program here and there.
func changedTexts(source *rand.Rand) []string {
	text, other := writtenProg(grownProg(source)), writtenProg(grownProg(source))
	from, to := source.Intn(len(text)), source.Intn(len(text))
	at := source.Intn(len(textBytes))
	more := textBytes[at : at+1]
	lines := strings.SplitAfter(text, "\n")
	lines = lines[:len(lines)-1]
	k := source.Intn(len(lines))
	fewer := strings.Join(slices.Delete(slices.Clone(lines), k, k+1), "")
	doubled := strings.Join(slices.Insert(slices.Clone(lines), k, lines[k]), "")
	source.Shuffle(len(lines), func(i, k int) { lines[i], lines[k] = lines[k], lines[i] })
	return []string{
		fewer, doubled, strings.Join(lines, ""),
		text[:from] + more + text[from+1:], text[:from] + more + text[from:],
		text[:min(from, to)] + text[max(from, to):], text[:from] + text[to:],
		text[:from] + other[min(to, len(other)):],
	}
}

func TestShownOfReadIsTheText(t *testing.T) {
	source := rand.New(rand.NewSource(9))
	read, none := 0, 0
	for range 1500 {
		for _, text := range changedTexts(source) {
			if checkAnyProg(t, text) {
				read++
			} else {
				none++
			}
		}
	}
	if read < 300 || none < 300 {
		t.Errorf("of the texts %d are of a program and %d of none: too few to tell", read, none)
	}
}

// TestTextsAreToldApart: no two expressions have one text.
func TestTextsAreToldApart(t *testing.T) {
	source := rand.New(rand.NewSource(10))
	seen := map[string][]impl.Term{}
	for range 20000 {
		e := grownIn(source, roomy(), 1+source.Intn(8))
		text := impl.ShowExp(roomy(), e)
		if other, is := seen[text]; is && !slices.Equal(other, e) {
			t.Errorf("%v and %v are both %q", e, other, text)
		}
		seen[text] = e
	}
}

var spoiledTerm = impl.Term{Op: spoiledMark, N: spoiledMark}

// spoilProg writes over all the memory of a Prog.
func spoilProg(p impl.Prog) {
	for _, s := range p.Body[:cap(p.Body)] {
		spoil(s.At, spoiledTerm)
		spoil(s.Exp, spoiledTerm)
	}
	spoil(p.Body, impl.Stmt{Op: spoiledMark})
	spoil(p.Lows, impl.Input{Max: spoiledMark})
	spoil(p.Secrets, impl.Input{Max: spoiledMark})
	spoil(p.Arrays, spoiledMark)
}

func TestReadProgramsAreNew(t *testing.T) {
	source := rand.New(rand.NewSource(11))
	texts := []string{longText, headOfRoomy, "width 1\ntemps 0\n", "width 2\nlow 1\nlow 1\nsecret 1 1\nsecret 1 1\ntemps 1\narray 2\narray 2\nm0[1] = 1\nm1[1] = 1\nout 1\nt0 = 1\nout 1\n"}
	for range 200 {
		texts = append(texts, writtenProg(grownProg(source)))
	}
	for _, text := range texts {
		first, is := impl.ReadProg(text)
		if !is {
			t.Fatalf("ReadProg(%s) is false", clip(text))
		}
		var lists [][]impl.Term
		for _, s := range first.Body {
			lists = append(lists, s.At, s.Exp)
		}
		checkApart(t, "ReadProg", spoiledTerm, lists...)
		checkApart(t, "ReadProg", impl.Input{Max: spoiledMark}, first.Lows, first.Secrets)
		spoilProg(first)
		if again, is := impl.ReadProg(text); !is || impl.ShowProg(again) != text {
			t.Errorf("ReadProg(%s): an answer is kept from call to call", clip(text))
		}
	}
}

func TestReadExpressionsAreNew(t *testing.T) {
	for _, c := range expCases {
		p := roomy(told(c.e...), told(num(1)), put(1, c.e, c.e))
		checkStays(t, c.text, p, func(given impl.Prog) {
			for range 2 {
				e, is := impl.ReadExp(given, c.text)
				if !is || !slices.Equal(e, c.e) {
					t.Errorf("ReadExp(%q) = %v, %v: an answer is kept from call to call, or is a part of an argument", c.text, e, is)
				}
				spoil(e, spoiledTerm)
			}
		})
	}
}

func TestTextArgumentsStay(t *testing.T) {
	source := rand.New(rand.NewSource(12))
	for range 200 {
		p := grownProg(source)
		checkStays(t, "a Prog that is right", p, askAllOfText)
	}
	for _, f := range allFaults() {
		checkStays(t, f.name, broken(f), askAllOfText)
	}
	for _, e := range slices.Concat(goodExpressions(), badExpressions(), longestOnes()) {
		a := termsArgument(e)
		first := impl.ShowExp(roomy(), a.list)
		if !a.untouched() || impl.ShowExp(roomy(), a.list) != first {
			t.Errorf("ShowExp of %d Terms %v writes into its argument", len(e), brief(e))
		}
	}
}

func askAllOfText(p impl.Prog) {
	impl.ShowProg(p)
	for _, s := range p.Body {
		impl.ShowExp(p, s.Exp)
		impl.ShowExp(p, s.At)
	}
	for _, text := range []string{"1", "l0", "(t0 + m0[1])", "((((", "!!x", "m0[s0", ""} {
		e, _ := impl.ReadExp(p, text)
		spoil(e, spoiledTerm)
	}
}

// TestNothingOfTheRefused has texts that are right up to their last bytes:
// nothing of what was read so far is told.
func TestNothingOfTheRefused(t *testing.T) {
	for _, text := range []string{longText + "end\n", longText + "x", longText + "\n", longText + "out 1", headOfRoomy + "out 1\nout 8\n", headOfRoomy + "loop 4\n", "width 3\ntemps 9\n", "width 3\nlow 1\nsecret 1 1\n"} {
		checkNoProg(t, text)
	}
	for _, text := range []string{"(1 + 2) ", "(1 + 2", "1 ", "(1 + 8)", "!!!", strings.Repeat("!", 40) + "1"} {
		checkNoExp(t, roomy(), text)
	}
}
