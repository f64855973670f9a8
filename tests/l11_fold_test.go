package tests

import (
	"math/rand"
	"slices"
	"testing"

	"loop.example/g00697/impl"
)

func isUnknown(term impl.Term) bool { return term.Op == impl.TmVar || term.Op == impl.TmCell }

// knownValue tells whether all of a part is known, and none of it traps.
func knownValue(p impl.Prog, part []impl.Term) (int64, bool) {
	if slices.ContainsFunc(part, isUnknown) {
		return 0, false
	}
	value, traps := reckoned(p, impl.Env{}, part)
	return value, len(traps) == 0
}

// foldedBy goes from the last Term to the first: the part that ends there is
// the greatest one, as what it would be within is not known.
func foldedBy(p impl.Prog, e []impl.Term) []impl.Term {
	var list []impl.Term
	for at := len(e) - 1; at >= 0; at-- {
		first := beginning(e, at)
		value, is := knownValue(p, e[first:at+1])
		if is {
			list = append(list, num(value))
			at = first
			continue
		}
		list = append(list, e[at])
	}
	slices.Reverse(list)
	return list
}

// checkFolded: it is no longer, may stand where it stood, and is folded.
func checkFolded(t *testing.T, p impl.Prog, e, want []impl.Term) {
	t.Helper()
	got := impl.Folded(p, e)
	if !slices.Equal(got, want) {
		t.Errorf("Folded of %s is %v; want %s at Width %d", written(p, e), got, written(p, want), p.Width)
		return
	}
	p.Body = []impl.Stmt{told(got...)}
	if len(got) > len(e) || !impl.ProgOk(p) {
		t.Errorf("Folded of %s is %s: it is longer, or may not stand", written(p, e), written(p, got))
	}
	if again := impl.Folded(p, got); !slices.Equal(again, got) {
		t.Errorf("Folded of %s is %s, and folded again %v", written(p, e), written(p, got), again)
	}
}

// checkFold holds it against the parts that are found from the end, and answers
// these.
func checkFold(t *testing.T, p impl.Prog, e []impl.Term) []impl.Term {
	t.Helper()
	want := foldedBy(p, e)
	checkFolded(t, p, e, want)
	return want
}

// checkSameValue is the promise, in one Env. It tells whether there is a trap.
func checkSameValue(t *testing.T, p impl.Prog, v impl.Env, e []impl.Term) bool {
	t.Helper()
	folded := impl.Folded(p, e)
	value, trap := impl.ValueIn(p, v, e)
	if got, by := impl.ValueIn(p, v, folded); got != value || by != trap {
		t.Errorf("%s is %d, %d, but folded, %v, it is %d, %d", written(p, e), value, trap, folded, got, by)
	}
	if plain, got := impl.PlainIn(p, v, e), impl.PlainIn(p, v, folded); got != plain {
		t.Errorf("%s is plainly %d, but folded, %v, it is %d", written(p, e), plain, folded, got)
	}
	return trap != impl.TrNone
}

// checkFolds has expressions of roomy in words, each with what it is folded; *
// is the expression itself.
func checkFolds(t *testing.T, cases [][2]string) {
	t.Helper()
	source := rand.New(rand.NewSource(110))
	for _, c := range cases {
		e := inWords(t, roomy(), c[0])
		want := e
		if c[1] != "*" {
			want = inWords(t, roomy(), c[1])
		}
		checkFolded(t, roomy(), e, want)
		if by := foldedBy(roomy(), e); !slices.Equal(by, want) {
			t.Errorf("%s: the tests fold it to %s, not to %s", c[0], written(roomy(), by), c[1])
		}
		checkSameValue(t, roomy(), roomyEnv(), e)
		for range 20 {
			checkSameValue(t, roomy(), grownEnv(source, roomy()), e)
		}
	}
}

// TestFoldedWholes: what is known as a whole, and one name or number.
func TestFoldedWholes(t *testing.T) {
	checkFolds(t, [][2]string{
		{"0", "0"}, {"1", "1"}, {"7", "7"}, {"l0", "l0"}, {"l1", "l1"}, {"s0", "s0"}, {"s1", "s1"}, {"t0", "t0"}, {"t1", "t1"}, {"m0[0]", "m0[0]"}, {"m1[5]", "m1[5]"}, {"m0[7]", "m0[7]"}, {"m1[t0]", "m1[t0]"},
		{"!0", "7"}, {"!7", "0"}, {"!5", "2"}, {"-0", "0"}, {"-1", "7"}, {"-7", "1"}, {"--3", "3"}, {"!!6", "6"}, {"-!0", "1"}, {"!-1", "0"},
		{"(2 + 3)", "5"}, {"(5 + 5)", "2"}, {"(7 + 1)", "0"}, {"(5 - 2)", "3"}, {"(2 - 5)", "5"}, {"(2 * 3)", "6"}, {"(3 * 3)", "1"}, {"(7 / 2)", "3"}, {"(0 / 7)", "0"}, {"(7 % 4)", "3"}, {"(2 % 7)", "2"},
		{"(6 & 3)", "2"}, {"(6 | 3)", "7"}, {"(6 ^ 3)", "5"}, {"(3 << 1)", "6"}, {"(3 << 2)", "4"}, {"(3 << 3)", "0"}, {"(7 << 7)", "0"}, {"(6 >> 1)", "3"}, {"(6 >> 3)", "0"}, {"(7 >> 7)", "0"},
		{"(5 == 5)", "1"}, {"(5 == 4)", "0"}, {"(3 < 4)", "1"}, {"(4 < 4)", "0"}, {"(5 < 4)", "0"},
		// a known part within a known part: only the greatest one is told
		{"((1 + 2) * (3 + 4))", "5"}, {"(((1 + 1) + 1) + 1)", "4"}, {"(1 + (1 + (1 + 1)))", "4"}, {"!-(1 + !(2 - -3))", "2"}, {"((7 + 1) == 0)", "1"}, {"((4 << 1) >> 1)", "0"}, {"((0 - 1) >> 1)", "3"}, {"(-1 / 2)", "3"}, {"(-1 % !3)", "3"}, {"((7 + 7) / (1 + 1))", "3"},
		{"((5 / (1 - 0)) % (3 ^ 7))", "1"}, {"(!0 == -1)", "1"}, {"((1 < 2) + (2 < 1))", "1"}, {"(((0 == 0) << (0 == 0)) | ((3 & 5) ^ (3 | 5)))", "6"},
	})
}

// TestFoldedParts: a part that is known, within what is not.
func TestFoldedParts(t *testing.T) {
	checkFolds(t, [][2]string{
		// at either side
		{"(l0 + (1 + 2))", "(l0 + 3)"}, {"((1 + 2) + l0)", "(3 + l0)"}, {"(s0 - !7)", "(s0 - 0)"}, {"(-1 * t1)", "(7 * t1)"}, {"((2 < 3) << s1)", "(1 << s1)"}, {"(s1 >> (2 == 3))", "(s1 >> 0)"}, {"(t0 / (6 - 6))", "(t0 / 0)"}, {"((6 / 2) / t0)", "(3 / t0)"}, {"(m0[0] & (1 | 2))", "(m0[0] & 3)"}, {"((1 | 2) ^ m1[5])", "(3 ^ m1[5])"},
		{"((1 + l0) + 2)", "*"}, {"((l0 + 1) + 2)", "*"}, {"(1 + (2 + l0))", "*"}, {"(1 + (l0 + 2))", "*"}, {"!l0", "*"}, {"-m0[0]", "*"}, {"!-!-s1", "*"},
		// deep within
		{"!-(l0 ^ !(s0 - -(1 << 2)))", "!-(l0 ^ !(s0 - 4))"}, {"((((l0 + (1 + 1)) - 3) * 4) / 5)", "((((l0 + 2) - 3) * 4) / 5)"}, {"(1 + (2 + (3 + (l0 + (4 + (5 + 6))))))", "(1 + (2 + (3 + (l0 + 7))))"}, {"(((((1 + 2) + 3) + l0) + 4) + 5)", "(((6 + l0) + 4) + 5)"}, {"(l0 == (s0 < (t0 | (t1 & (m0[0] ^ !-1)))))", "(l0 == (s0 < (t0 | (t1 & (m0[0] ^ 0)))))"},
		// more than one
		{"((l0 + (1 + 2)) * (s0 - (3 - 1)))", "((l0 + 3) * (s0 - 2))"}, {"((l0 + (1 + 2)) * (3 + 4))", "((l0 + 3) * 7)"}, {"((3 + 4) * ((1 + 2) + l0))", "(7 * (3 + l0))"}, {"(((1 + 1) + l0) ^ ((2 + 2) + l1))", "((2 + l0) ^ (4 + l1))"}, {"(!0 - (l0 - (!1 - (l1 - !2))))", "(7 - (l0 - (6 - (l1 - 5))))"}, {"((1 < 2) + ((2 < 1) + ((l0 + !7) + --4)))", "(1 + (0 + ((l0 + 0) + 4)))"},
		// a known part within a known part
		{"(l0 * ((1 + 2) - (3 * 1)))", "(l0 * 0)"}, {"(!(-(1 + (2 + 3)) >> 1) % s1)", "(6 % s1)"}, {"(l0 | (((1 & 3) << (1 + 1)) ^ (7 + 2)))", "(l0 | 5)"},
		// nothing is known by what stands beside it
		{"(l0 - l0)", "*"}, {"(l0 * 0)", "*"}, {"(0 * l0)", "*"}, {"(0 & s0)", "*"}, {"(s0 ^ s0)", "*"}, {"(l0 == l0)", "*"}, {"(l0 < 0)", "*"}, {"(s0 << 7)", "*"}, {"(0 >> s0)", "*"}, {"(s0 / 1)", "*"}, {"(s0 % 1)", "*"}, {"(s0 + 0)", "*"}, {"!!l0", "*"}, {"--s1", "*"}, {"(l0 / 0)", "*"}, {"(l1 * (1 - 1))", "(l1 * 0)"},
	})
}

// TestFoldedCells: a cell is not known, but its index may be.
func TestFoldedCells(t *testing.T) {
	checkFolds(t, [][2]string{
		{"m0[(1 - 1)]", "m0[0]"}, {"m1[(2 + 3)]", "m1[5]"}, {"m1[-3]", "m1[5]"}, {"m0[(3 + 4)]", "m0[7]"}, {"m1[!(1 == 1)]", "m1[6]"}, {"m1[(5 % 2)]", "m1[1]"}, {"!m0[!7]", "!m0[0]"}, {"(m0[(1 - 1)] + (1 + 1))", "(m0[0] + 2)"}, {"((1 + 1) - m1[(1 + 1)])", "(2 - m1[2])"},
		{"m1[m0[(1 - 1)]]", "m1[m0[0]]"}, {"m1[m1[m1[(1 + 1)]]]", "m1[m1[m1[2]]]"}, {"m1[(m0[0] + (1 + 1))]", "m1[(m0[0] + 2)]"}, {"m1[((1 + 1) * l0)]", "m1[(2 * l0)]"}, {"m1[(m0[-0] - m1[--1])]", "m1[(m0[0] - m1[1])]"}, {"m1[(1 / 0)]", "*"}, {"m1[(7 / (1 - 1))]", "m1[(7 / 0)]"},
		{"(m0[0] - m0[0])", "*"}, {"(0 * m1[1])", "*"}, {"m0[m0[0]]", "*"}, {"m0[l0]", "*"}, {"m0[1]", "*"}, {"(m0[0] == m0[0])", "*"}, {"-m1[0]", "*"},
	})
}

// TestFoldedTraps: what is known and traps stays, and so does each Term that it
// is within; all other parts are numbers.
func TestFoldedTraps(t *testing.T) {
	checkFolds(t, [][2]string{
		{"(1 / 0)", "*"}, {"(1 % 0)", "*"}, {"(0 / 0)", "*"}, {"(0 % 0)", "*"}, {"(7 / 0)", "*"}, {"(7 % 0)", "*"},
		// two known parts side by side, under what is not known
		{"((1 + 2) / 0)", "(3 / 0)"}, {"((1 + 2) % 0)", "(3 % 0)"}, {"(!0 / !7)", "(7 / 0)"}, {"((1 + 1) / (3 - 3))", "(2 / 0)"}, {"((2 * 2) % (2 * 4))", "(4 % 0)"}, {"(((1 + 1) + 1) / ((2 - 1) - 1))", "(3 / 0)"}, {"((0 / 1) / (0 / 1))", "(0 / 0)"},
		// the divisor is known to be 0
		{"(1 / (2 - 2))", "(1 / 0)"}, {"(1 % !7)", "(1 % 0)"}, {"(5 / -0)", "(5 / 0)"}, {"(1 / (7 + 1))", "(1 / 0)"}, {"(1 % (2 / 3))", "(1 % 0)"}, {"(l0 % (1 == 2))", "(l0 % 0)"}, {"(1 / (4 << 1))", "(1 / 0)"}, {"(1 / (0 / 1))", "(1 / 0)"}, {"(1 / (7 >> 3))", "(1 / 0)"},
		// within what is otherwise known
		{"((1 / 0) + 1)", "*"}, {"(1 + (1 / 0))", "*"}, {"!(1 / 0)", "*"}, {"-(1 % 0)", "*"}, {"(0 * (1 / 0))", "*"}, {"((1 / 0) & 0)", "*"}, {"(0 < (1 % 0))", "*"}, {"((1 / 0) << 7)", "*"}, {"(0 >> (1 / 0))", "*"}, {"(0 / (1 / 0))", "*"}, {"((1 / 0) % 1)", "*"}, {"((1 / 0) == (1 / 0))", "*"}, {"((1 / 0) - (1 % 0))", "*"}, {"((1 / 0) / 0)", "*"},
		{"((1 / 0) + (1 + 1))", "((1 / 0) + 2)"}, {"((1 + 1) + (1 / 0))", "(2 + (1 / 0))"}, {"((1 + 1) / (0 / 0))", "(2 / (0 / 0))"}, {"((1 / (1 - 1)) / (2 - 2))", "((1 / 0) / 0)"}, {"(((1 + 1) % (2 - 2)) * ((2 + 2) / (3 - 3)))", "((2 % 0) * (4 / 0))"}, {"!(-(1 / 0) + !-1)", "!(-(1 / 0) + 0)"}, {"((2 + (1 / 0)) + 3)", "*"}, {"(((1 + 2) + (1 / 0)) + (3 + 3))", "((3 + (1 / 0)) + 6)"}, {"(((4 / 2) + (4 / 0)) - (4 / 3))", "((2 + (4 / 0)) - 1)"},
		{"((l0 + (1 + 1)) / (2 - 2))", "((l0 + 2) / 0)"}, {"((4 - 4) / (l0 + (2 + 2)))", "(0 / (l0 + 4))"}, {"(l0 + ((1 + 1) / (1 - 1)))", "(l0 + (2 / 0))"}, {"m0[((1 / 0) + !7)]", "m0[((1 / 0) + 0)]"}, {"((1 + 1) % m0[(2 - 2)])", "(2 % m0[0])"}, {"(m1[(3 + 3)] / (1 - 1))", "(m1[6] / 0)"},
	})
}

// TestFoldedAtEachWidth reckons each pair of numbers, and beyond Width 4 those
// about each power of 2.
func TestFoldedAtEachWidth(t *testing.T) {
	for width := int64(1); width <= 8; width++ {
		p := impl.Prog{Width: width}
		for a := range int64(1) << width {
			checkFolded(t, p, []impl.Term{num(a), sign(impl.TmNot)}, []impl.Term{num(1<<width - 1 - a)})
			checkFolded(t, p, []impl.Term{num(a), sign(impl.TmNeg)}, []impl.Term{num(modulo(-a, width))})
			for b := range int64(1) << width {
				if width <= 4 || isAboutPower(a) && isAboutPower(b) {
					checkFoldedPair(t, p, a, b)
				}
			}
		}
	}
}

func isAboutPower(n int64) bool {
	return (n-1)&(n-2) == 0 || n&(n-1) == 0 || n&(n+1) == 0 || n == 254
}

func checkFoldedPair(t *testing.T, p impl.Prog, a, b int64) {
	t.Helper()
	for op := int64(impl.TmAdd); op < impl.TmIf; op++ {
		e := []impl.Term{num(a), num(b), sign(op)}
		value, trap := termValue(p, impl.Env{}, sign(op), []int64{a, b})
		if trap != impl.TrNone {
			checkFolded(t, p, e, e)
		} else {
			checkFolded(t, p, e, []impl.Term{num(value)})
		}
	}
}

// TestFoldedAtWidths1And8 is by hand.
func TestFoldedAtWidths1And8(t *testing.T) {
	cases := map[int64][][2]string{
		1: {{"!0", "1"}, {"!1", "0"}, {"-1", "1"}, {"-0", "0"}, {"(1 + 1)", "0"}, {"(0 - 1)", "1"}, {"(1 * 1)", "1"}, {"(1 / 1)", "1"}, {"(1 % 1)", "0"}, {"(1 << 0)", "1"}, {"(1 << 1)", "0"}, {"(1 >> 0)", "1"}, {"(1 >> 1)", "0"}, {"(1 ^ 1)", "0"}, {"(0 < 1)", "1"}, {"(0 == 0)", "1"}, {"((1 + 1) + l0)", "(0 + l0)"}, {"(l0 / (1 + 1))", "(l0 / 0)"}, {"(1 / (1 + 1))", "(1 / 0)"}},
		8: {{"!0", "255"}, {"!255", "0"}, {"-1", "255"}, {"-128", "128"}, {"(255 + 1)", "0"}, {"(255 + 255)", "254"}, {"(200 + 100)", "44"}, {"(0 - 1)", "255"}, {"(3 - 255)", "4"}, {"(16 * 16)", "0"}, {"(255 * 255)", "1"}, {"(15 * 17)", "255"}, {"(255 / 16)", "15"}, {"(255 % 16)", "15"}, {"(0 < 255)", "1"},
			{"(255 << 7)", "128"}, {"(255 << 8)", "0"}, {"(255 << 9)", "0"}, {"(1 << 63)", "0"}, {"(1 << 64)", "0"}, {"(1 << 65)", "0"}, {"(255 << 255)", "0"}, {"(255 >> 7)", "1"}, {"(255 >> 8)", "0"}, {"(255 >> 63)", "0"}, {"(255 >> 64)", "0"}, {"(255 >> 255)", "0"}, {"((255 << 4) >> 4)", "15"}, {"(l0 + (250 + 10))", "(l0 + 4)"}, {"(l0 % (128 << 1))", "(l0 % 0)"}},
	}
	for width, list := range cases {
		p := impl.Prog{Width: width, Lows: maxes(1)}
		for _, c := range list {
			e := inWords(t, p, c[0])
			checkFolded(t, p, e, inWords(t, p, c[1]))
			checkSameValue(t, p, impl.Env{Vars: []int64{1}}, e)
		}
	}
}

// TestFoldedShifts: by as many bits as there are, and by any more.
func TestFoldedShifts(t *testing.T) {
	for width := int64(1); width <= 8; width++ {
		p := impl.Prog{Width: width}
		greatest := int64(1)<<width - 1
		for bits := range greatest + 1 {
			left, right := int64(0), int64(0)
			if bits < width {
				left, right = greatest>>bits<<bits, greatest>>bits
			}
			checkFolded(t, p, []impl.Term{num(greatest), num(bits), sign(impl.TmShl)}, []impl.Term{num(left)})
			checkFolded(t, p, []impl.Term{num(greatest), num(bits), sign(impl.TmShr)}, []impl.Term{num(right)})
		}
	}
}

// TestFoldedWithinEachPlace: three deep, a part that is known, one that traps
// and ones that are not known.
func TestFoldedWithinEachPlace(t *testing.T) {
	for _, text := range []string{"3", "(3 + 1)", "(1 / 0)", "(2 % (4 - 4))", "s1", "(s1 + (2 + 2))", "m1[2]", "m1[(1 + 1)]"} {
		inner := inWords(t, roomy(), text)
		for _, one := range around(inner) {
			checkFold(t, roomy(), one)
			for _, two := range around(one) {
				checkFold(t, roomy(), two)
				checkFold(t, roomy(), append(slices.Clone(two), cell(0)))
				for _, three := range around(two) {
					checkFold(t, roomy(), three)
				}
			}
		}
	}
}

// TestFoldedOfEachOther has each two of these side by side under each Term.
func TestFoldedOfEachOther(t *testing.T) {
	texts := []string{"0", "5", "(1 + 1)", "(1 - 1)", "!!(2 * 3)", "(1 / 0)", "(1 % (2 - 2))", "l0", "(l0 + (1 + 2))", "m1[0]", "m1[(1 + 1)]", "m0[(1 / 0)]", "-(4 - (1 / (1 - 1)))"}
	for _, first := range texts {
		for _, second := range texts {
			a, b := inWords(t, roomy(), first), inWords(t, roomy(), second)
			for op := int64(impl.TmAdd); op < impl.TmIf; op++ {
				e := append(joined(a, b), sign(op))
				checkFold(t, roomy(), e)
				checkFold(t, roomy(), append(slices.Clone(e), sign(impl.TmNot), cell(1)))
				checkSameValue(t, roomy(), roomyEnv(), e)
				for _, behind := range []string{"(3 + 3)", "s0"} {
					checkFold(t, roomy(), append(joined(e, inWords(t, roomy(), behind)), sign(impl.TmSub)))
					checkFold(t, roomy(), append(joined(inWords(t, roomy(), behind), e), sign(impl.TmDiv)))
				}
			}
		}
	}
}

// TestFoldsOfAllShortLists goes through all lists over some Terms: those that
// are no expression are as they are.
func TestFoldsOfAllShortLists(t *testing.T) {
	letters := []impl.Term{num(0), num(2), variable(2), cell(1), sign(impl.TmNeg), sign(impl.TmDiv), sign(impl.TmSub)}
	lists := [][]impl.Term{nil}
	whole, partly, stayed := 0, 0, 0
	for start := 0; start < len(lists); start++ {
		e := lists[start]
		switch {
		case !isExpression(e):
			checkAsItIs(t, roomy(), e)
		default:
			folded := checkFold(t, roomy(), e)
			whole += int(oneWhere(len(folded) == 1 && len(e) > 1))
			partly += int(oneWhere(len(folded) > 1 && len(folded) < len(e)))
			stayed += int(oneWhere(len(folded) == len(e)))
		}
		if len(e) < 6 {
			for _, letter := range letters {
				lists = append(lists, append(slices.Clone(e), letter))
			}
		}
	}
	if whole < 300 || partly < 500 || stayed < 500 {
		t.Errorf("%d are folded as a whole, %d partly, %d not at all: too few to tell", whole, partly, stayed)
	}
}

// checkAsItIs: it is told as it is, in new memory.
func checkAsItIs(t *testing.T, p impl.Prog, e []impl.Term) {
	t.Helper()
	a := termsArgument(e)
	got := impl.Folded(p, a.list)
	if !slices.Equal(got, e) {
		t.Errorf("Folded of %d Terms %v is %d Terms %v; it may not stand there", len(e), brief(e), len(got), brief(got))
	}
	spoil(got, spoiledTerm)
	if !a.untouched() {
		t.Errorf("Folded of %d Terms %v is a part of its argument, or writes into it", len(e), brief(e))
	}
}

func TestFoldedOfWhatMayNotStand(t *testing.T) {
	for _, e := range trapsThatMayNotStand() {
		checkAsItIs(t, roomy(), e)
	}
	known, add := []impl.Term{num(1), num(2), sign(impl.TmAdd)}, sign(impl.TmAdd)
	for _, e := range badExpressions() {
		checkAsItIs(t, fullest(), e)
		for _, more := range [][]impl.Term{append(joined(known, e), add), joined(e, known)} {
			if !isExpression(more) {
				checkAsItIs(t, fullest(), more)
			}
		}
	}
	for _, last := range unfit {
		e := single(last)
		if last.Op == impl.TmCell {
			e[0] = num(0)
		}
		checkAsItIs(t, roomy(), e)
		checkAsItIs(t, roomy(), append(joined(known, e), add))
		checkAsItIs(t, roomy(), append(joined(e, known), add))
		checkAsItIs(t, roomy(), append(joined(known, e, known), add, add))
	}
	// the other Prog has what roomy does not
	for _, term := range []impl.Term{num(8), variable(6), variable(11)} {
		e := append(joined(known, single(term)), add)
		checkAsItIs(t, roomy(), e)
		checkFold(t, fullest(), e)
	}
	narrow := roomy()
	narrow.Arrays = []int64{6}
	checkAsItIs(t, narrow, append(slices.Clone(known), cell(1)))
	checkFolded(t, narrow, append(slices.Clone(known), cell(0)), []impl.Term{num(3), cell(0)})
}

// TestFoldedOfATmIf: there is none in a Body, so nothing of it is folded.
func TestFoldedOfATmIf(t *testing.T) {
	known, choose, add := []impl.Term{num(1), num(2), sign(impl.TmAdd)}, sign(impl.TmIf), sign(impl.TmAdd)
	for _, n := range []int64{0, 1, 3} {
		checkAsItIs(t, roomy(), append(times(1, num(n)), num(4), num(5), choose))
		checkAsItIs(t, roomy(), append(joined(times(1, num(n)), known, known), choose))
		checkAsItIs(t, roomy(), append(joined(times(1, num(n)), known, times(1, variable(2))), choose))
		checkAsItIs(t, roomy(), append(joined(times(1, variable(2)), known, times(1, num(n))), choose))
		checkAsItIs(t, roomy(), joined(times(3, num(n)), times(1, choose), known, times(1, add)))
		checkAsItIs(t, roomy(), joined(known, times(3, num(n)), times(1, choose, add)))
		checkAsItIs(t, roomy(), joined(times(3, num(n)), times(1, choose, cell(1))))
	}
}

// TestFoldedOfManyTerms: as many as there may be, and more.
func TestFoldedOfManyTerms(t *testing.T) {
	not, neg, add := sign(impl.TmNot), sign(impl.TmNeg), sign(impl.TmAdd)
	for _, e := range longestOnes() {
		checkFold(t, roomy(), e)
		checkAsItIs(t, roomy(), append(slices.Clone(e), not))
	}
	checkFolded(t, roomy(), joined(times(1, num(3)), times(39, not)), []impl.Term{num(4)})
	checkFolded(t, roomy(), joined(times(1, num(3)), times(39, neg)), []impl.Term{num(5)})
	checkFolded(t, roomy(), joined(times(20, num(3)), times(19, add), times(1, neg)), []impl.Term{num(4)})
	checkFolded(t, roomy(), joined(times(1, num(3)), times(37, not), times(1, variable(0), add)), []impl.Term{num(4), variable(0), add})
	checkFolded(t, roomy(), joined(times(1, variable(0)), times(1, num(3)), times(37, not), times(1, add)), []impl.Term{variable(0), num(4), add})
	checkFolded(t, roomy(), joined(times(1, num(3)), times(37, not), times(1, num(0), sign(impl.TmDiv))), []impl.Term{num(4), num(0), sign(impl.TmDiv)})
	for _, count := range []int{41, 42, 43, 100, 1000, 2999, 3000, 3001, 50000} {
		checkAsItIs(t, roomy(), joined(times(1, num(3)), times(count-1, not)))
		checkAsItIs(t, roomy(), joined(times(1, variable(0), num(3)), times(count-3, neg), times(1, add)))
	}
	for _, e := range slices.Concat(widestOnes(), wideOnes(42), wideOnes(3000)) {
		checkAsItIs(t, roomy(), e)
		checkAsItIs(t, fullest(), e)
	}
}

// knownMore puts numbers in place of most names.
func knownMore(source *rand.Rand, p impl.Prog, e []impl.Term) []impl.Term {
	e = slices.Clone(e)
	for at, term := range e {
		switch {
		case term.Op == impl.TmVar && source.Intn(3) > 0:
			e[at] = num(source.Int63n(1 << p.Width))
		case term.Op == impl.TmCell && source.Intn(2) > 0:
			e[at] = sign(impl.TmNeg)
		case (term.Op == impl.TmDiv || term.Op == impl.TmMod) && source.Intn(2) > 0:
			e[at] = sign(impl.TmXor)
		}
	}
	return e
}

// TestWhatIsFoldedHasTheValueThatItHad is the promise, over many expressions
// and many Envs.
func TestWhatIsFoldedHasTheValueThatItHad(t *testing.T) {
	source := rand.New(rand.NewSource(111))
	var whole, partly, stayed, traps, free, trapping int
	for range 700 {
		p := grownProg(source)
		for range 15 {
			e := knownMore(source, p, grownIn(source, p, 1+source.Intn(40)))
			folded := checkFold(t, p, e)
			whole += int(oneWhere(len(folded) == 1 && len(e) > 1))
			partly += int(oneWhere(len(folded) > 1 && len(folded) < len(e)))
			stayed += int(oneWhere(len(folded) == len(e) && len(e) > 1))
			trapping += int(oneWhere(len(folded) > 1 && len(folded) < len(e) && !slices.ContainsFunc(e, isUnknown)))
			for range 8 {
				if checkSameValue(t, p, grownEnv(source, p), e) {
					traps++
				} else {
					free++
				}
			}
		}
	}
	if whole < 1000 || partly < 1000 || stayed < 500 || trapping < 100 || traps < 5000 || free < 5000 {
		t.Errorf("%d are folded as a whole, %d partly, %d not at all, %d are known and trap, %d values trap, %d do not: too few to tell", whole, partly, stayed, trapping, traps, free)
	}
}

// TestEachValueOfFolded goes through all values of two variables.
func TestEachValueOfFolded(t *testing.T) {
	source := rand.New(rand.NewSource(112))
	for width := int64(1); width <= 3; width++ {
		p := twoInputs(width)
		for range 150 {
			e := knownMore(source, p, grownIn(source, p, 3+source.Intn(20)))
			checkFold(t, p, e)
			for a := range int64(1) << width {
				for b := range int64(1) << width {
					checkSameValue(t, p, impl.Env{Vars: []int64{a, b}}, e)
				}
			}
		}
	}
}

// TestFoldingTakesNoNames: the names in it are the same ones, and nothing may
// trap that could not. A number for each of the greatest parts is all there is
// to it, so a part that is told in its place is folded alike.
func TestFoldingTakesNoNames(t *testing.T) {
	source := rand.New(rand.NewSource(113))
	calmed := 0
	for range 3000 {
		p := grownProg(source)
		e := knownMore(source, p, grownIn(source, p, 1+source.Intn(40)))
		folded := impl.Folded(p, e)
		variables, arrays := impl.NamesIn(e)
		gotVariables, gotArrays := impl.NamesIn(folded)
		if !slices.Equal(variables, gotVariables) || !slices.Equal(arrays, gotArrays) {
			t.Errorf("%s is folded to %s: names are lost", written(p, e), written(p, folded))
		}
		before, after := impl.MayTrap(p, e), impl.MayTrap(p, folded)
		if after && !before {
			t.Errorf("%s is folded to %s, which may trap", written(p, e), written(p, folded))
		}
		calmed += int(oneWhere(before && !after))
		checkPartsFolded(t, p, e, folded)
	}
	if calmed < 100 {
		t.Errorf("%d may trap no more: too few to tell", calmed)
	}
}

// checkPartsFolded: what is not one number is its last Term behind its parts,
// each of them folded.
func checkPartsFolded(t *testing.T, p impl.Prog, e, folded []impl.Term) {
	t.Helper()
	if len(folded) == 1 {
		return
	}
	var list []impl.Term
	for _, part := range impl.PartsOf(e) {
		list = append(list, impl.Folded(p, part)...)
	}
	if list = append(list, e[len(e)-1]); !slices.Equal(list, folded) {
		t.Errorf("%s is folded to %s, but its parts make up %s", written(p, e), written(p, folded), written(p, list))
	}
}

// foldedProgBy folds by the tests.
func foldedProgBy(p impl.Prog) impl.Prog {
	p.Body = slices.Clone(p.Body)
	for i, s := range p.Body {
		p.Body[i].At, p.Body[i].Exp = foldedBy(p, s.At), foldedBy(p, s.Exp)
	}
	return p
}

// checkFoldedProg: it is right, makes as many steps, and is folded.
func checkFoldedProg(t *testing.T, p, want impl.Prog) {
	t.Helper()
	got := impl.FoldedProg(p)
	if !sameProgs(got, want) || !impl.ProgOk(got) || impl.StepsOf(got) != impl.StepsOf(p) {
		t.Errorf("FoldedProg is\n%s; want\n%s of\n%s", writtenAnyProg(got), writtenProg(want), writtenProg(p))
	}
	if again := impl.FoldedProg(got); !sameProgs(again, got) {
		t.Errorf("FoldedProg of a FoldedProg is\n%s, not\n%s", writtenAnyProg(again), writtenAnyProg(got))
	}
	for i, s := range p.Body {
		if i < len(got.Body) && (!slices.Equal(got.Body[i].At, impl.Folded(p, s.At)) || !slices.Equal(got.Body[i].Exp, impl.Folded(p, s.Exp))) {
			t.Errorf("FoldedProg has other expressions than Folded in\n%s, of\n%s", writtenStmt(p, got.Body[i]), writtenStmt(p, s))
		}
	}
}

// checkFoldOfProg holds it against that of the tests, and answers that one.
func checkFoldOfProg(t *testing.T, p impl.Prog) impl.Prog {
	t.Helper()
	want := foldedProgBy(p)
	checkFoldedProg(t, p, want)
	return want
}

// checkEndsTheSame: all that is left is the same, too.
func checkEndsTheSame(t *testing.T, p, folded impl.Prog, lows, secrets []int64) {
	t.Helper()
	v, _ := impl.AfterOf(p, lows, secrets)
	if got, is := impl.AfterOf(folded, lows, secrets); !is || !sameEnvs(v, got) {
		t.Errorf("with %v and %v, %v is left, but %v of what is folded, of\n%s", lows, secrets, v, got, writtenProg(p))
	}
}

// foldCase is a Body of roomy, and what is left of it: * is all of it.
type foldCase struct{ body, folded string }

// TestFoldedPrograms has each kind of Stmt.
func TestFoldedPrograms(t *testing.T) {
	for _, c := range []foldCase{
		{"", ""}, {"out 5", "*"}, {"out s0", "*"}, {"out (1 + 2)", "out 3"}, {"out (s1 + (1 + 2))", "out (s1 + 3)"}, {"out (1 / (2 - 2))", "out (1 / 0)"}, {"out !-1; out s0; out (2 * 2)", "out 0; out s0; out 4"},
		{"t0 = (1 + 2)", "t0 = 3"}, {"t1 = (t1 - -1)", "t1 = (t1 - 7)"}, {"t0 = t1", "*"}, {"t0 = m1[(2 + 2)]", "t0 = m1[4]"}, {"t0 = (1 % 0)", "*"},
		// both of an StPut
		{"m0[0] = 1", "*"}, {"m0[(1 - 1)] = 1", "m0[0] = 1"}, {"m0[0] = (1 - 1)", "m0[0] = 0"}, {"m1[(1 + 1)] = (2 + 2)", "m1[2] = 4"}, {"m1[(1 + s0)] = (2 + s1)", "*"}, {"m1[(s0 + (1 + 1))] = ((2 + 2) - s1)", "m1[(s0 + 2)] = (4 - s1)"}, {"m1[(4 + 3)] = (1 + 1)", "m1[7] = 2"}, {"m0[(1 / (1 - 1))] = (2 / (2 - 2))", "m0[(1 / 0)] = (2 / 0)"}, {"m1[m0[(3 - 3)]] = m1[!5]", "m1[m0[0]] = m1[2]"},
		// a block stays where it is known which way is taken
		{"if (1 < 2); out (1 + 1); else; out (2 + 2); end", "if 1; out 2; else; out 4; end"}, {"if (1 == 2); out s0; end", "if 0; out s0; end"}, {"if (s0 < (1 + 1)); end", "if (s0 < 2); end"}, {"if 0; end", "*"}, {"if (1 / 0); end", "*"}, {"if !7; if !!s0; t0 = -7; end; end", "if 0; if !!s0; t0 = 1; end; end"},
		{"loop 0; out (1 + 1); end", "loop 0; out 2; end"}, {"loop 4; loop 2; t0 = (t0 + (1 + 1)); end; end", "loop 4; loop 2; t0 = (t0 + 2); end; end"}, {"loop 3; end", "*"},
		{"throw 9", "*"}, {"throw 0; out (3 - 2)", "throw 0; out 1"}, {"try; out (1 + 0); throw 4; catch 4; out (2 + 0); end", "try; out 1; throw 4; catch 4; out 2; end"}, {"try; catch 7; end", "*"}, {"try; throw 1; catch 2; m0[!7] = !7; end", "try; throw 1; catch 2; m0[0] = 0; end"},
		{"t0 = (1 + 1); m1[(1 + 1)] = t0; if (t0 == (1 + 1)); loop 2; try; out m1[(1 + 1)]; throw 3; catch 3; out (6 / (5 - 2)); end; end; else; out (6 / (5 - 5)); end; out (t0 << (1 << 1))", "t0 = 2; m1[2] = t0; if (t0 == 2); loop 2; try; out m1[2]; throw 3; catch 3; out 2; end; end; else; out (6 / 0); end; out (t0 << 2)"},
		// nothing is known by what was set
		{"t0 = 1; out (t0 + 1)", "*"}, {"m0[0] = 2; out m0[0]", "*"}, {"t0 = 0; if t0; end", "*"},
	} {
		p := roomyBody(t, c.body)
		want := p
		if c.folded != "*" {
			want = roomyBody(t, c.folded)
		}
		checkFoldedProg(t, p, want)
		if by := foldedProgBy(p); !sameProgs(by, want) {
			t.Errorf("%s: the tests fold it to\n%s", c.body, writtenProg(by))
		}
		checkTellsTheSame(t, p, want)
		checkEndsTheSame(t, p, want, lastsOf(p.Lows), lastsOf(p.Secrets))
	}
}

// TestFoldsOfManyStmts: as many as may be, each of as many Terms as may be.
func TestFoldsOfManyStmts(t *testing.T) {
	known := joined(times(1, num(3)), times(37, sign(impl.TmNot)), times(1, num(1), sign(impl.TmAdd)))
	partly := joined(times(1, variable(0), num(3)), times(37, sign(impl.TmNot)), times(1, sign(impl.TmAdd)))
	for _, c := range [][2]impl.Stmt{
		{told(known...), told(num(5))}, {set(4, known), set(4, times(1, num(5)))}, {put(1, known, known), put(1, times(1, num(5)), times(1, num(5)))},
		{told(partly...), told(variable(0), num(4), sign(impl.TmAdd))}, {put(0, partly, known), put(0, []impl.Term{variable(0), num(4), sign(impl.TmAdd)}, times(1, num(5)))},
		{told(variable(5)), told(variable(5))},
	} {
		for _, count := range []int{1, 2, 39, 40} {
			checkFoldedProg(t, roomy(slices.Repeat(c[:1], count)...), roomy(slices.Repeat(c[1:], count)...))
		}
		for at := range 40 {
			p, want := roomy(outs(40)...), roomy(outs(40)...)
			p.Body[at], want.Body[at] = c[0], c[1]
			checkFoldedProg(t, p, want)
		}
	}
	long, short := slices.Repeat([]impl.Stmt{told(known...)}, 30), slices.Repeat([]impl.Stmt{told(num(5))}, 30)
	checkFoldedProg(t, roomy(loops(long, 4, 2)...), roomy(loops(short, 4, 2)...))
	checkFoldedProg(t, fullest(), fullest())
	checkFoldedProg(t, impl.Prog{Width: 1}, impl.Prog{Width: 1})
	checkFoldedProg(t, impl.Prog{Width: 8, Body: []impl.Stmt{}}, impl.Prog{Width: 8})
}

// TestHeadsOfFoldedStay: whatever is in them.
func TestHeadsOfFoldedStay(t *testing.T) {
	source := rand.New(rand.NewSource(114))
	for range 500 {
		p := grownProg(source)
		p.Body = []impl.Stmt{told(num(1), sign(impl.TmNeg))}
		want := p
		want.Body = []impl.Stmt{told(num(1<<p.Width - 1))}
		checkFoldedProg(t, p, want)
		p.Body, want.Body = nil, nil
		checkFoldedProg(t, p, want)
	}
}

// foldStmts make up short Bodies in which much is known; one traps, and one
// does where t0 is 0.
var foldStmts = []impl.Stmt{
	told(variable(4), num(1), num(1), sign(impl.TmAdd), sign(impl.TmAdd)), set(4, []impl.Term{variable(2), num(0), sign(impl.TmNot), sign(impl.TmSub)}), set(5, []impl.Term{num(3), num(1), sign(impl.TmNeg), variable(4), sign(impl.TmDiv), sign(impl.TmMul)}), told(num(1), num(2), num(2), sign(impl.TmSub), sign(impl.TmMod)),
	put(0, []impl.Term{num(1), num(1), sign(impl.TmXor)}, []impl.Term{variable(4)}), told(num(7), sign(impl.TmNot), cell(0)), numbered(impl.StThrow, 1),
	asked(num(1), num(2), sign(impl.TmLt)), plain(impl.StElse), plain(impl.StEnd), numbered(impl.StLoop, 2), plain(impl.StTry), numbered(impl.StCatch, 1),
}

func TestFoldsOfAllShortBodies(t *testing.T) {
	count, traps := 0, 0
	eachShortBody(foldStmts, nil, nil, 4, func(body []impl.Stmt) {
		p := roomy(body...)
		p.Lows, p.Secrets = maxes(0, 0), maxes(1, 0)
		folded := checkFoldOfProg(t, p)
		traps += checkTellsTheSame(t, p, folded)
		count++
	})
	if count < 3000 || traps < 1000 {
		t.Errorf("%d bodies, %d traps: too few to tell", count, traps)
	}
}

// grownFold makes a right Prog in which much is known, and not all of it traps.
func grownFold(source *rand.Rand) impl.Prog {
	for {
		p := grownProg(source)
		if source.Intn(4) > 0 {
			p = lively(source, p)
		}
		for i, s := range p.Body {
			p.Body[i].At, p.Body[i].Exp = knownMore(source, p, s.At), knownMore(source, p, s.Exp)
		}
		if impl.ProgOk(p) && len(p.Body) > 1 {
			return p
		}
	}
}

// TestAFoldedProgramTellsTheSame is the promise, of programs.
func TestAFoldedProgramTellsTheSame(t *testing.T) {
	source := rand.New(rand.NewSource(115))
	var shorter, traps, free int
	for range 1500 {
		p := grownFold(source)
		folded := checkFoldOfProg(t, p)
		shorter += int(oneWhere(!sameProgs(p, folded)))
		trapped := checkTellsTheSame(t, p, folded)
		traps += int(oneWhere(trapped > 0))
		free += int(oneWhere(trapped == 0))
		checkEndsTheSame(t, p, folded, grownValues(source, p.Lows), grownValues(source, p.Secrets))
		checkEndsTheSame(t, p, folded, lastsOf(p.Lows), lastsOf(p.Secrets))
	}
	if shorter < 700 || traps < 200 || free < 500 {
		t.Errorf("%d are shorter, %d trap, %d do not: too few to tell", shorter, traps, free)
	}
}

// TestFoldedProgramsCountAlike: as many Outcomes, no more labels, and the slice
// of what is folded tells the same.
func TestFoldedProgramsCountAlike(t *testing.T) {
	source := rand.New(rand.NewSource(116))
	fewer := 0
	for range 500 {
		p := grownFold(source)
		folded := impl.FoldedProg(p)
		if !slices.Equal(mosts(p), mosts(folded)) || !slices.EqualFunc(impl.AllOutcomes(p), impl.AllOutcomes(folded), sameOutcomes) {
			t.Errorf("%v Outcomes, but %v of what is folded, of\n%s", mosts(p), mosts(folded), writtenProg(p))
		}
		before, after := impl.FlowOf(p), impl.FlowOf(folded)
		if after.Leaks&^before.Leaks != 0 || after.Escape&^before.Escape != 0 {
			t.Errorf("the Flow is %v, but %v of what is folded, of\n%s", before, after, writtenProg(p))
		}
		fewer += int(oneWhere(before.Escape != after.Escape || !sameFlows(before, after)))
		checkTellsTheSame(t, p, impl.Sliced(folded))
	}
	if fewer < 5 {
		t.Errorf("%d have fewer labels: too few to tell", fewer)
	}
}

// checkNoFold: what is asked of a Prog that is not right is as it is.
func checkNoFold(t *testing.T, name string, p impl.Prog) {
	t.Helper()
	if impl.ProgOk(p) {
		t.Errorf("%s is right", name)
	}
	if got := impl.FoldedProg(p); !sameProgs(got, impl.Prog{}) {
		t.Errorf("%s: FoldedProg is %v; want the zero Prog", name, got)
	}
	for _, e := range [][]impl.Term{{num(1), num(0), sign(impl.TmAdd)}, {num(0), sign(impl.TmNot)}, {num(1), num(0), sign(impl.TmDiv)}, {num(1), num(1), sign(impl.TmSub), cell(0)}, {variable(0), num(1), sign(impl.TmNeg), sign(impl.TmMul)}, {num(1), num(1), num(1), sign(impl.TmIf)}, one(), nil} {
		checkAsItIs(t, p, e)
	}
}

func TestFoldsOfProgramsThatAreNotRight(t *testing.T) {
	eachWrongProg(func(name string, p impl.Prog) { checkNoFold(t, name, p) })
	right := broken()
	right.Body = append(right.Body, told(num(1), num(1), sign(impl.TmSub), cell(0)))
	want := broken()
	want.Body = append(want.Body, told(num(0), cell(0)))
	checkFoldedProg(t, right, want)
	known := joined(times(1, num(3)), times(40, sign(impl.TmNot)))
	// what is wrong would be right if it were folded
	for _, s := range []impl.Stmt{told(known...), set(4, known), asked(known...), put(0, known, one()), put(0, one(), known), told(num(1), num(2), num(3), sign(impl.TmIf)), told(num(8), num(1), sign(impl.TmAdd))} {
		checkNoFold(t, "a Stmt that is not right", roomy(closedBody(s)...))
		checkNoFold(t, "a Stmt that is not right", roomy(append([]impl.Stmt{told(known[:40]...)}, closedBody(s)...)...))
	}
	checkNoFold(t, "41 Stmts", roomy(slices.Repeat([]impl.Stmt{told(known[:40]...)}, 41)...))
	// it may stand in the Body, but for what else is in it
	checkAsItIs(t, roomy(plain(impl.StEnd)), known[:40])
	checkFold(t, roomy(), known[:40])
}

// askAgainFolded and askAgainFoldedProg spoil the answer and ask again.
func askAgainFolded(t *testing.T, p impl.Prog, e []impl.Term) {
	t.Helper()
	list := impl.Folded(p, e)
	before := slices.Clone(list)
	spoil(list, spoiledTerm)
	if again := impl.Folded(p, e); !slices.Equal(again, before) {
		t.Errorf("Folded is %v, then %v: it is kept from call to call, or a part of an argument", brief(before), brief(again))
	}
}

func askAgainFoldedProg(t *testing.T, p impl.Prog) {
	t.Helper()
	first := impl.FoldedProg(p)
	kept := writtenAnyProg(first)
	checkApart(t, "FoldedProg", spoiledTerm, listsOfTerms(first)...)
	checkApart(t, "FoldedProg", impl.Input{Max: spoiledMark}, first.Lows, first.Secrets)
	spoilProg(first)
	if again := writtenAnyProg(impl.FoldedProg(p)); again != kept {
		t.Errorf("FoldedProg is %s, then %s: it is kept from call to call, or a part of an argument", kept, again)
	}
}

func checkFoldsStay(t *testing.T, name string, p impl.Prog, e []impl.Term) {
	t.Helper()
	a := termsArgument(e)
	checkStays(t, name, p, func(given impl.Prog) {
		askAgainFoldedProg(t, given)
		askAgainFolded(t, given, a.list)
		for _, s := range given.Body {
			askAgainFolded(t, given, s.Exp)
		}
	})
	if !a.untouched() {
		t.Errorf("%s: %d Terms %v: the argument was written into", name, len(e), brief(e))
	}
}

func TestFoldsAreNewAndArgumentsStay(t *testing.T) {
	source := rand.New(rand.NewSource(117))
	for range 150 {
		p := grownFold(source)
		checkFoldsStay(t, "a right Prog", p, knownMore(source, p, grownIn(source, p, 1+source.Intn(45))))
		p = grownProg(source)
		checkFoldsStay(t, "a right Prog", p, grownWide(source, p, 60))
	}
	for _, f := range allFaults() {
		checkFoldsStay(t, f.name, broken(f), []impl.Term{num(1), sign(impl.TmNot)})
	}
	for _, e := range slices.Concat(trapsThatMayNotStand(), longestOnes()) {
		checkFoldsStay(t, "roomy", roomy(), e)
	}
	checkFoldsStay(t, "one without Stmts", impl.Prog{Width: 1, Temps: 2, Arrays: []int64{1, 1}}, one())
	checkFoldsStay(t, "nothing is known", roomy(told(variable(4)), set(4, []impl.Term{variable(3)})), []impl.Term{variable(4)})
	checkFoldsStay(t, "all is known", roomy(told(num(1), sign(impl.TmNot)), put(1, one(), []impl.Term{num(1), sign(impl.TmNeg)})), []impl.Term{num(1), sign(impl.TmNot)})
}

// TestFoldsOfSharedLists: lists that are one in the argument are several in
// the answer.
func TestFoldsOfSharedLists(t *testing.T) {
	for _, text := range []string{"0", "s0", "(1 - 1)", "m0[(1 - 1)]", "(s0 / (2 - 2))"} {
		e := inWords(t, roomy(), text)
		p := roomy(put(0, e, e), put(0, e, e), set(4, e), told(e...), asked(e...), plain(impl.StEnd), set(5, e))
		p.Lows = maxes(3, 3)
		p.Secrets = p.Lows
		before := writtenProg(p)
		folded := impl.FoldedProg(p)
		checkFoldOfProg(t, p)
		checkApart(t, "FoldedProg", spoiledTerm, listsOfTerms(folded)...)
		checkApart(t, "FoldedProg", impl.Input{Max: spoiledMark}, folded.Lows, folded.Secrets)
		spoilProg(folded)
		spoil(impl.Folded(p, e), spoiledTerm)
		if writtenProg(p) != before {
			t.Errorf("FoldedProg shares a list with its argument, which is now\n%s", writtenProg(p))
		}
	}
}

// TestFoldsTellTheSameAgain, whatever else is asked in between.
func TestFoldsTellTheSameAgain(t *testing.T) {
	p, q := roomyBody(t, "t0 = (1 + 2); out m1[(7 - 5)]"), ofText(t, "width 8; temps 0; out (128 * 2)")
	for range 50 {
		checkFoldedProg(t, p, roomyBody(t, "t0 = 3; out m1[2]"))
		checkFolded(t, p, inWords(t, p, "(4 + 4)"), []impl.Term{num(0)})
		checkFoldedProg(t, q, ofText(t, "width 8; temps 0; out 0"))
		checkFolded(t, q, inWords(t, q, "(4 + 4)"), []impl.Term{num(8)})
		checkNoFold(t, "the zero Prog", impl.Prog{})
	}
}
