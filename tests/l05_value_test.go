package tests

import (
	"fmt"
	"math/rand"
	"slices"
	"testing"

	"loop.example/g00697/impl"
)

// modulo is the number from 0 on that differs by a multiple of 2 to the Width.
func modulo(n, width int64) int64 {
	power := int64(1) << width
	return (n%power + power) % power
}

// bitByBit puts a number together from what is made of each pair of bits.
func bitByBit(a, b, width int64, bit func(x, y int64) bool) int64 {
	sum := int64(0)
	for power := int64(1); power < 1<<width; power *= 2 {
		if bit(a/power%2, b/power%2) {
			sum += power
		}
	}
	return sum
}

// fitsInto is how many times b goes into a.
func fitsInto(a, b int64) int64 {
	times := int64(0)
	for (times+1)*b <= a {
		times++
	}
	return times
}

// again starts from a number and does the same to it so many times.
func again(n, times int64, next func(n int64) int64) int64 {
	for range times {
		n = next(n)
	}
	return n
}

func oneWhere(is bool) int64 {
	if is {
		return 1
	}
	return 0
}

// pairValue reckons what takes two by counting, and keeps nothing in common
// with the program. A divisor of 0 is not asked of it.
func pairValue(op, a, b, width int64) int64 {
	switch op {
	case impl.TmAdd:
		return again(a, b, func(n int64) int64 { return modulo(n+1, width) })
	case impl.TmSub:
		return again(a, b, func(n int64) int64 { return modulo(n-1, width) })
	case impl.TmMul:
		return again(0, b, func(n int64) int64 { return modulo(n+a, width) })
	case impl.TmDiv:
		return fitsInto(a, b)
	case impl.TmMod:
		return a - b*fitsInto(a, b)
	case impl.TmAnd:
		return bitByBit(a, b, width, func(x, y int64) bool { return x+y == 2 })
	case impl.TmOr:
		return bitByBit(a, b, width, func(x, y int64) bool { return x+y >= 1 })
	case impl.TmXor:
		return bitByBit(a, b, width, func(x, y int64) bool { return x+y == 1 })
	case impl.TmShl:
		return again(a, b, func(n int64) int64 { return modulo(2*n, width) })
	case impl.TmShr:
		return again(a, b, func(n int64) int64 { return n / 2 })
	case impl.TmEq:
		return oneWhere(a-b == 0)
	case impl.TmLt:
		return oneWhere(a-b < 0)
	}
	return spareMark
}

// termValue is what a Term is behind what it takes, and its own trap. Where it
// traps, it is 0.
func termValue(p impl.Prog, v impl.Env, term impl.Term, taken []int64) (int64, int64) {
	switch term.Op {
	case impl.TmNum:
		return term.N, impl.TrNone
	case impl.TmVar:
		return v.Vars[term.N], impl.TrNone
	case impl.TmCell:
		if taken[0] >= p.Arrays[term.N] {
			return 0, impl.TrCell
		}
		return v.Cells[term.N][taken[0]], impl.TrNone
	case impl.TmNot:
		return bitByBit(taken[0], 0, p.Width, func(x, y int64) bool { return x == 0 }), impl.TrNone
	case impl.TmNeg:
		return modulo(0-taken[0], p.Width), impl.TrNone
	case impl.TmIf:
		return taken[1+oneWhere(taken[0] == 0)], impl.TrNone
	case impl.TmDiv, impl.TmMod:
		if taken[1] == 0 {
			return 0, impl.TrDiv
		}
	}
	return pairValue(term.Op, taken[0], taken[1], p.Width), impl.TrNone
}

// takenAt finds the places at which those end that the Term at a place takes.
func takenAt(e []impl.Term, at int) []int {
	var ends []int
	end := at - 1
	for range takesByOp[e[at].Op] {
		ends = append(ends, end)
		end = beginning(e, end) - 1
	}
	slices.Reverse(ends)
	return ends
}

// reckoned goes from place to place and tells the plain value of the whole,
// and the traps, all of them, in the order of the Terms.
func reckoned(p impl.Prog, v impl.Env, e []impl.Term) (int64, []int64) {
	values := make([]int64, len(e))
	var traps []int64
	for at, term := range e {
		var taken []int64
		for _, end := range takenAt(e, at) {
			taken = append(taken, values[end])
		}
		trap := int64(impl.TrNone)
		values[at], trap = termValue(p, v, term, taken)
		if trap != impl.TrNone {
			traps = append(traps, trap)
		}
	}
	return values[len(e)-1], traps
}

func checkValue(t *testing.T, p impl.Prog, v impl.Env, e []impl.Term, value, trap, plain int64) {
	t.Helper()
	if got, by := impl.ValueIn(p, v, e); got != value || by != trap {
		t.Errorf("ValueIn at Width %d, of %v, of %d Terms %v = %d, %d; want %d, %d", p.Width, v, len(e), brief(e), got, by, value, trap)
	}
	if got := impl.PlainIn(p, v, e); got != plain {
		t.Errorf("PlainIn at Width %d, of %v, of %d Terms %v = %d, want %d", p.Width, v, len(e), brief(e), got, plain)
	}
}

// checkNoTrap: the promise, where the value is known.
func checkNoTrap(t *testing.T, p impl.Prog, v impl.Env, e []impl.Term, value int64) {
	t.Helper()
	checkValue(t, p, v, e, value, impl.TrNone, value)
}

func checkNoValue(t *testing.T, p impl.Prog, v impl.Env, e []impl.Term) {
	t.Helper()
	checkValue(t, p, v, e, 0, impl.TrNone, 0)
}

// checkReckoned holds both against the values of each place. It tells whether
// there is a trap.
func checkReckoned(t *testing.T, p impl.Prog, v impl.Env, e []impl.Term) bool {
	t.Helper()
	plain, traps := reckoned(p, v, e)
	if len(traps) > 0 {
		checkValue(t, p, v, e, 0, traps[0], plain)
		return true
	}
	checkNoTrap(t, p, v, e, plain)
	return false
}

// roomyEnv is right for roomy: l0 6, l1 0, s0 1, s1 5, t0 3, t1 7.
func roomyEnv() impl.Env {
	return impl.Env{Vars: []int64{6, 0, 1, 5, 3, 7}, Cells: [][]int64{{4}, {1, 2, 3, 0, 5, 7}}}
}

// inWords reads an expression by the reader of the tests.
func inWords(t *testing.T, p impl.Prog, text string) []impl.Term {
	t.Helper()
	e, is := readByStack(p, text)
	if !is {
		t.Fatalf("%s is no expression", text)
	}
	return e
}

func TestOrdinaryValues(t *testing.T) {
	cases := map[string]int64{
		"0": 0, "1": 1, "7": 7, "l0": 6, "l1": 0, "s0": 1, "s1": 5, "t0": 3, "t1": 7,
		"m0[0]": 4, "m1[0]": 1, "m1[s0]": 2, "m1[5]": 7, "m1[m0[l1]]": 5, "m1[m1[m1[1]]]": 0,
		"!0": 7, "!7": 0, "!s1": 2, "!!s1": 5, "-0": 0, "-1": 7, "-s1": 3, "--s1": 5, "-!s1": 6, "!-s1": 4,
		"(2 + 3)": 5, "(l0 + 1)": 7, "(l0 + 2)": 0, "(t1 + t1)": 6, "(5 - 2)": 3, "(2 - 5)": 5, "(l1 - t1)": 1, "(4 - 4)": 0,
		"(2 * 3)": 6, "(3 * 3)": 1, "(t1 * t1)": 1, "(l0 * l0)": 4, "(7 / 2)": 3, "(6 / 2)": 3, "(2 / 7)": 0, "(7 / 7)": 1, "(7 % 3)": 1, "(6 % 3)": 0, "(2 % 7)": 2,
		"(6 & 3)": 2, "(6 | 3)": 7, "(6 ^ 3)": 5, "(4 & 3)": 0, "(4 | 3)": 7, "(7 ^ 7)": 0,
		"(3 << 1)": 6, "(3 << 2)": 4, "(3 << 3)": 0, "(3 << 7)": 0, "(6 >> 1)": 3, "(6 >> 2)": 1, "(6 >> 3)": 0, "(7 >> 7)": 0,
		"(3 == 3)": 1, "(3 == 4)": 0, "(3 < 4)": 1, "(4 < 3)": 0, "(3 < 3)": 0,
		"((7 + 1) == 0)": 1, "((7 + 1) < 1)": 1, "((7 + 7) / 2)": 3, "((4 << 1) >> 1)": 0, "((0 - 1) >> 1)": 3, "(!0 == -1)": 1, "(0 < -1)": 1, "(-1 / 2)": 3, "(-1 % 4)": 3,
		"((l0 + s1) * (t0 - t1))": 4, "(l0 - m1[(t0 % 2)])": 4, "(m1[(s1 - 1)] ^ !m0[(l0 / t1)])": 6, "m1[(m0[0] + 1)]": 7, "(1 << (l0 < t1))": 2,
	}
	for text, want := range cases {
		e := inWords(t, roomy(), text)
		checkNoTrap(t, roomy(), roomyEnv(), e, want)
		checkReckoned(t, roomy(), roomyEnv(), e)
	}
}

// twoInputs has two variables, whatever their Max.
func twoInputs(width int64) impl.Prog {
	return impl.Prog{Width: width, Lows: maxes(0), Secrets: maxes(0)}
}

// checkPair asks of two variables, of two numbers, and of one of each.
func checkPair(t *testing.T, width, op, a, b int64) {
	t.Helper()
	p, v := twoInputs(width), impl.Env{Vars: []int64{a, b}}
	value, trap := termValue(p, v, sign(op), []int64{a, b})
	checkValue(t, p, v, []impl.Term{variable(0), variable(1), sign(op)}, value, trap, value)
	if width <= 4 {
		checkValue(t, p, v, []impl.Term{num(a), num(b), sign(op)}, value, trap, value)
		checkValue(t, p, v, []impl.Term{variable(0), num(b), sign(op)}, value, trap, value)
		checkValue(t, p, v, []impl.Term{num(a), variable(1), sign(op)}, value, trap, value)
	}
}

func TestAllPairsOfValues(t *testing.T) {
	for width := int64(1); width <= 8; width++ {
		for op := int64(impl.TmAdd); op <= impl.TmLt; op++ {
			for a := range int64(1) << width {
				for b := range int64(1) << width {
					checkPair(t, width, op, a, b)
				}
			}
		}
	}
}

func TestAllSingleValues(t *testing.T) {
	for width := int64(1); width <= 8; width++ {
		greatest := int64(1)<<width - 1
		for n := range greatest + 1 {
			p, v := twoInputs(width), impl.Env{Vars: []int64{0, n}}
			for _, e := range [][]impl.Term{{variable(1)}, {num(n)}} {
				checkNoTrap(t, p, v, e, n)
				checkNoTrap(t, p, v, append(slices.Clone(e), sign(impl.TmNot)), greatest-n)
				checkNoTrap(t, p, v, append(slices.Clone(e), sign(impl.TmNeg)), modulo(-n, width))
				checkNoTrap(t, p, v, append(slices.Clone(e), sign(impl.TmNot), sign(impl.TmNot)), n)
				checkNoTrap(t, p, v, append(slices.Clone(e), sign(impl.TmNeg), sign(impl.TmNeg)), n)
			}
		}
	}
}

// TestEdgesByHand has the edges of each Op, reckoned by hand.
func TestEdgesByHand(t *testing.T) {
	cases := []struct {
		width, op, a, b, want int64
	}{
		{1, impl.TmAdd, 1, 1, 0}, {1, impl.TmSub, 0, 1, 1}, {1, impl.TmMul, 1, 1, 1}, {1, impl.TmShl, 1, 0, 1}, {1, impl.TmShl, 1, 1, 0}, {1, impl.TmShr, 1, 0, 1}, {1, impl.TmShr, 1, 1, 0},
		{1, impl.TmDiv, 1, 1, 1}, {1, impl.TmMod, 1, 1, 0}, {1, impl.TmDiv, 0, 1, 0}, {1, impl.TmLt, 0, 1, 1}, {1, impl.TmXor, 1, 1, 0},
		{4, impl.TmAdd, 15, 1, 0}, {4, impl.TmAdd, 15, 15, 14}, {4, impl.TmAdd, 8, 7, 15}, {4, impl.TmAdd, 8, 8, 0}, {4, impl.TmSub, 0, 1, 15}, {4, impl.TmSub, 0, 15, 1}, {4, impl.TmSub, 3, 9, 10},
		{4, impl.TmMul, 15, 15, 1}, {4, impl.TmMul, 4, 4, 0}, {4, impl.TmMul, 5, 3, 15}, {4, impl.TmMul, 6, 3, 2}, {4, impl.TmMul, 0, 15, 0},
		{4, impl.TmShl, 1, 0, 1}, {4, impl.TmShl, 1, 3, 8}, {4, impl.TmShl, 15, 3, 8}, {4, impl.TmShl, 15, 4, 0}, {4, impl.TmShl, 15, 5, 0}, {4, impl.TmShl, 15, 15, 0},
		{4, impl.TmShr, 8, 0, 8}, {4, impl.TmShr, 8, 3, 1}, {4, impl.TmShr, 15, 3, 1}, {4, impl.TmShr, 15, 4, 0}, {4, impl.TmShr, 15, 5, 0}, {4, impl.TmShr, 15, 15, 0},
		{4, impl.TmDiv, 0, 15, 0}, {4, impl.TmDiv, 15, 1, 15}, {4, impl.TmDiv, 15, 15, 1}, {4, impl.TmDiv, 14, 15, 0}, {4, impl.TmDiv, 14, 4, 3}, {4, impl.TmMod, 0, 15, 0}, {4, impl.TmMod, 15, 1, 0}, {4, impl.TmMod, 15, 15, 0}, {4, impl.TmMod, 14, 15, 14}, {4, impl.TmMod, 14, 4, 2},
		{8, impl.TmAdd, 255, 1, 0}, {8, impl.TmAdd, 255, 255, 254}, {8, impl.TmAdd, 128, 127, 255}, {8, impl.TmSub, 0, 1, 255}, {8, impl.TmSub, 0, 255, 1}, {8, impl.TmSub, 255, 0, 255},
		{8, impl.TmMul, 255, 255, 1}, {8, impl.TmMul, 16, 16, 0}, {8, impl.TmMul, 15, 17, 255}, {8, impl.TmMul, 100, 3, 44},
		{8, impl.TmShl, 1, 7, 128}, {8, impl.TmShl, 255, 7, 128}, {8, impl.TmShl, 255, 8, 0}, {8, impl.TmShl, 255, 9, 0}, {8, impl.TmShl, 255, 63, 0}, {8, impl.TmShl, 255, 64, 0}, {8, impl.TmShl, 255, 65, 0}, {8, impl.TmShl, 255, 255, 0}, {8, impl.TmShl, 255, 0, 255},
		{8, impl.TmShr, 128, 7, 1}, {8, impl.TmShr, 255, 8, 0}, {8, impl.TmShr, 255, 63, 0}, {8, impl.TmShr, 255, 64, 0}, {8, impl.TmShr, 255, 65, 0}, {8, impl.TmShr, 255, 255, 0}, {8, impl.TmShr, 255, 0, 255},
		{8, impl.TmDiv, 255, 1, 255}, {8, impl.TmDiv, 255, 2, 127}, {8, impl.TmDiv, 254, 255, 0}, {8, impl.TmMod, 255, 254, 1}, {8, impl.TmMod, 255, 1, 0}, {8, impl.TmLt, 127, 128, 1}, {8, impl.TmLt, 255, 0, 0}, {8, impl.TmEq, 255, 255, 1},
		{8, impl.TmAnd, 240, 60, 48}, {8, impl.TmOr, 240, 60, 252}, {8, impl.TmXor, 240, 60, 204},
	}
	for _, c := range cases {
		checkNoTrap(t, twoInputs(c.width), impl.Env{Vars: []int64{c.a, c.b}}, []impl.Term{variable(0), variable(1), sign(c.op)}, c.want)
	}
}

// TestByNought has each value divided by 0, which is 0 where it is plain.
func TestByNought(t *testing.T) {
	for width := int64(1); width <= 8; width++ {
		for n := range int64(1) << width {
			p, v := twoInputs(width), impl.Env{Vars: []int64{n, 0}}
			for _, op := range []int64{impl.TmDiv, impl.TmMod} {
				checkValue(t, p, v, []impl.Term{variable(0), variable(1), sign(op)}, 0, impl.TrDiv, 0)
				checkValue(t, p, v, []impl.Term{variable(0), num(0), sign(op)}, 0, impl.TrDiv, 0)
				checkValue(t, p, v, []impl.Term{variable(0), num(n), num(n), sign(impl.TmSub), sign(op), sign(impl.TmNot)}, 0, impl.TrDiv, 1<<width-1)
			}
		}
	}
}

// TestEachCell has arrays of each size, the other one being of another size or
// of the same, and an index that is a number or a variable.
func TestEachCell(t *testing.T) {
	for width := int64(1); width <= 8; width++ {
		for size := int64(1); size <= 6; size++ {
			for other := int64(1); other <= 6; other++ {
				p := impl.Prog{Width: width, Lows: maxes(0), Arrays: []int64{size, other}}
				v := impl.Env{Vars: []int64{0}, Cells: [][]int64{make([]int64, size), make([]int64, other)}}
				for i := range size {
					v.Cells[0][i] = modulo(i+1, width)
				}
				for i := range other {
					v.Cells[1][i] = modulo(10*(i+1), width)
				}
				checkCells(t, p, v)
			}
		}
	}
}

func checkCells(t *testing.T, p impl.Prog, v impl.Env) {
	t.Helper()
	for array, cells := range v.Cells {
		for index := range int64(1) << p.Width {
			v.Vars[0] = index
			for _, ahead := range []impl.Term{variable(0), num(index)} {
				e := []impl.Term{ahead, cell(int64(array))}
				if index < int64(len(cells)) {
					checkNoTrap(t, p, v, e, cells[index])
				} else {
					checkValue(t, p, v, e, 0, impl.TrCell, 0)
				}
			}
		}
	}
}

func TestFirstAndLastCell(t *testing.T) {
	p, v := roomy(), roomyEnv()
	checkNoTrap(t, p, v, []impl.Term{num(0), cell(0)}, 4)
	checkValue(t, p, v, []impl.Term{num(1), cell(0)}, 0, impl.TrCell, 0)
	checkValue(t, p, v, []impl.Term{num(7), cell(0)}, 0, impl.TrCell, 0)
	checkNoTrap(t, p, v, []impl.Term{num(0), cell(1)}, 1)
	checkNoTrap(t, p, v, []impl.Term{num(5), cell(1)}, 7)
	checkValue(t, p, v, []impl.Term{num(6), cell(1)}, 0, impl.TrCell, 0)
	checkValue(t, p, v, []impl.Term{num(7), cell(1)}, 0, impl.TrCell, 0)
	checkNoTrap(t, p, v, []impl.Term{num(7), num(3), sign(impl.TmAdd), cell(1)}, 3)
	checkValue(t, p, v, []impl.Term{num(0), num(1), sign(impl.TmSub), cell(1)}, 0, impl.TrCell, 0)
}

// TestTraps has the first trap in the order of the Terms, and what is plain.
func TestTraps(t *testing.T) {
	cases := []struct {
		text        string
		trap, plain int64
	}{
		{"(1 / 0)", impl.TrDiv, 0}, {"(1 % 0)", impl.TrDiv, 0}, {"(0 / 0)", impl.TrDiv, 0}, {"(0 % 0)", impl.TrDiv, 0}, {"(s1 / l1)", impl.TrDiv, 0}, {"(s1 % (t1 + s0))", impl.TrDiv, 0},
		{"m0[1]", impl.TrCell, 0}, {"m1[6]", impl.TrCell, 0}, {"m1[-1]", impl.TrCell, 0}, {"m0[s0]", impl.TrCell, 0},
		// both orders, side by side
		{"((1 / 0) + m0[1])", impl.TrDiv, 0}, {"(m0[1] + (1 / 0))", impl.TrCell, 0}, {"((1 % 0) + m1[6])", impl.TrDiv, 0}, {"(m1[6] + (1 % 0))", impl.TrCell, 0},
		{"(((1 / 0) + 2) - m0[1])", impl.TrDiv, 2}, {"((m0[1] + 2) - (1 / 0))", impl.TrCell, 2}, {"((2 + (1 / 0)) - (m0[1] * 3))", impl.TrDiv, 2},
		{"(3 + (m0[2] + (1 / 0)))", impl.TrCell, 3}, {"(3 + ((1 / 0) + m0[2]))", impl.TrDiv, 3}, {"((1 / 0) == m0[1])", impl.TrDiv, 1}, {"(m0[1] < !(1 / 0))", impl.TrCell, 1},
		// within an index
		{"m0[(1 / 0)]", impl.TrDiv, 4}, {"m1[(1 % 0)]", impl.TrDiv, 1}, {"m1[m0[1]]", impl.TrCell, 1}, {"m1[((1 / 0) + 6)]", impl.TrDiv, 0}, {"m1[!(1 / 0)]", impl.TrDiv, 0}, {"m0[!m1[6]]", impl.TrCell, 0},
		// within a divisor
		{"(1 / m0[1])", impl.TrCell, 0}, {"(1 % m0[1])", impl.TrCell, 0}, {"(6 / (m0[1] + 2))", impl.TrCell, 3}, {"(1 / (1 / 0))", impl.TrDiv, 0}, {"(5 % !(1 % 0))", impl.TrDiv, 5}, {"(6 / m1[(1 / 0)])", impl.TrDiv, 6},
		// within what is divided
		{"(m0[1] / 0)", impl.TrCell, 0}, {"(m0[1] % 0)", impl.TrCell, 0}, {"(m0[1] / 2)", impl.TrCell, 0}, {"(!m0[1] / 2)", impl.TrCell, 3}, {"((1 / 0) / 0)", impl.TrDiv, 0}, {"(!(1 / 0) % 4)", impl.TrDiv, 3},
		{"((2 / m1[7]) / m0[0])", impl.TrCell, 0}, {"((2 / 0) / m0[1])", impl.TrDiv, 0},
		// where the other one would settle it
		{"(0 * (1 / 0))", impl.TrDiv, 0}, {"(0 & m0[1])", impl.TrCell, 0}, {"(7 | (1 / 0))", impl.TrDiv, 7}, {"(1 >> !m0[1])", impl.TrCell, 0}, {"(!(1 / 0) << 1)", impl.TrDiv, 6}, {"-!m0[1]", impl.TrCell, 1},
		// many behind the first
		{"((((m1[7] + (1 / 0)) + (1 % 0)) + m0[1]) + 3)", impl.TrCell, 3}, {"((((1 / 0) + m1[7]) + m0[1]) + m0[1])", impl.TrDiv, 0}, {"m0[m0[m0[(1 % 0)]]]", impl.TrDiv, 4},
	}
	for _, c := range cases {
		e := inWords(t, roomy(), c.text)
		checkValue(t, roomy(), roomyEnv(), e, 0, c.trap, c.plain)
		if !checkReckoned(t, roomy(), roomyEnv(), e) {
			t.Errorf("%s has no trap", c.text)
		}
	}
}

// trapping are parts to put into others: what it is plain, and its trap.
var trapping = []struct {
	e    []impl.Term
	trap int64
}{
	{[]impl.Term{num(3), num(0), sign(impl.TmDiv)}, impl.TrDiv},
	{[]impl.Term{num(3), num(0), sign(impl.TmMod)}, impl.TrDiv},
	{[]impl.Term{num(7), cell(1)}, impl.TrCell},
	{[]impl.Term{num(1), cell(0)}, impl.TrCell},
}

// TestTrapsUnderEachOp has a trap at each place that an Op takes, and at each
// two of them.
func TestTrapsUnderEachOp(t *testing.T) {
	for op := int64(impl.TmCell); op <= impl.TmIf; op++ {
		for _, a := range trapping {
			for _, b := range trapping {
				checkTrapsUnder(t, op, a.e, a.trap, b.e)
			}
		}
	}
}

func checkTrapsUnder(t *testing.T, op int64, first []impl.Term, trap int64, second []impl.Term) {
	t.Helper()
	takes := int(takesByOp[op])
	for at := range takes {
		for behind := at; behind < takes; behind++ {
			parts := [][]impl.Term{{num(2)}, {num(1)}, {num(4)}}[:takes]
			parts[behind] = second
			parts[at] = first
			e := append(slices.Concat(parts...), sign(op))
			plain, _ := reckoned(roomy(), roomyEnv(), e)
			checkValue(t, roomy(), roomyEnv(), e, 0, trap, plain)
		}
	}
}

func TestIf(t *testing.T) {
	p, v, choose := roomy(), roomyEnv(), sign(impl.TmIf)
	for n := range int64(8) {
		want := 4 + oneWhere(n == 0)
		checkNoTrap(t, p, v, []impl.Term{num(n), num(4), num(5), choose}, want)
		v.Vars[3] = n
		checkNoTrap(t, p, v, []impl.Term{variable(3), num(4), num(5), choose}, want)
	}
	cases := []struct {
		e    []impl.Term
		want int64
	}{
		{[]impl.Term{num(1), num(0), num(7), choose}, 0}, {[]impl.Term{num(0), num(7), num(0), choose}, 0},
		{[]impl.Term{num(7), num(1), sign(impl.TmAdd), num(2), num(3), choose}, 3}, {[]impl.Term{num(0), sign(impl.TmNot), num(2), num(3), choose}, 2},
		{[]impl.Term{num(0), num(2), num(1), num(3), num(4), choose, choose}, 3}, {[]impl.Term{num(0), num(2), num(0), num(3), num(4), choose, choose}, 4}, {[]impl.Term{num(5), num(2), num(0), num(3), num(4), choose, choose}, 2},
		{[]impl.Term{num(1), num(0), num(3), num(4), choose, num(6), choose}, 4}, {[]impl.Term{num(0), num(1), num(0), choose, num(3), num(4), choose}, 4}, {[]impl.Term{num(1), num(2), num(3), choose, cell(1), sign(impl.TmNot)}, 4},
		{[]impl.Term{variable(0), variable(4), sign(impl.TmLt), variable(0), variable(4), choose}, 3}, {[]impl.Term{variable(4), variable(0), sign(impl.TmLt), variable(0), variable(4), choose}, 6},
		{[]impl.Term{variable(1), num(0), cell(1), num(0), cell(0), choose, num(3), sign(impl.TmAdd)}, 7},
	}
	for _, c := range cases {
		checkNoTrap(t, roomy(), roomyEnv(), c.e, c.want)
		checkReckoned(t, roomy(), roomyEnv(), c.e)
	}
}

// TestTrapsUnderIf: both ways stand ahead of the TmIf, so a trap in the way
// that is not taken is one too.
func TestTrapsUnderIf(t *testing.T) {
	p, v, choose := roomy(), roomyEnv(), sign(impl.TmIf)
	two, five := []impl.Term{num(2)}, []impl.Term{num(5)}
	for _, a := range trapping {
		for n := range int64(8) {
			first := []impl.Term{num(n)}
			checkValue(t, p, v, append(joined(first, two, a.e), choose), 0, a.trap, 2*oneWhere(n > 0))
			checkValue(t, p, v, append(joined(first, a.e, five), choose), 0, a.trap, 5*oneWhere(n == 0))
		}
		checkValue(t, p, v, append(joined(a.e, two, five), choose), 0, a.trap, 5)
		for _, b := range trapping {
			checkValue(t, p, v, append(joined(one(), a.e, b.e), choose), 0, a.trap, 0)
			checkValue(t, p, v, append(joined([]impl.Term{num(0)}, a.e, b.e), choose), 0, a.trap, 0)
			checkValue(t, p, v, append(joined(a.e, b.e, five), choose), 0, a.trap, 5)
			checkValue(t, p, v, append(joined(a.e, two, b.e), choose), 0, a.trap, 0)
		}
	}
}

// envFor is an Env of the numbers that the Prog tells, be it right or not; all
// values are 1.
func envFor(p impl.Prog) impl.Env {
	var v impl.Env
	for range int64(len(p.Lows)+len(p.Secrets)) + p.Temps {
		v.Vars = append(v.Vars, 1)
	}
	for _, size := range p.Arrays {
		v.Cells = append(v.Cells, slices.Repeat([]int64{1}, int(size)))
	}
	return v
}

// asksOfAll are right in each Prog, whatever it has: a value and a trap.
var asksOfAll = [][]impl.Term{{num(1)}, {num(1), num(0), sign(impl.TmDiv)}, {num(0), sign(impl.TmNot)}, {num(1), num(1), num(0), sign(impl.TmIf)}}

// checkEnv asks whether the Env is right, and what becomes of expressions.
func checkEnv(t *testing.T, name string, p impl.Prog, v impl.Env, right bool) {
	t.Helper()
	if got := impl.EnvOk(p, v); got != right {
		t.Errorf("%s: EnvOk of %v is %v", name, v, got)
	}
	for _, e := range asksOfAll {
		if right {
			checkReckoned(t, p, v, e)
		} else {
			checkNoValue(t, p, v, e)
		}
	}
}

// changedEnv is another Env, changed.
func changedEnv(v impl.Env, change func(v *impl.Env)) impl.Env {
	other := impl.Env{Vars: slices.Clone(v.Vars)}
	for _, cells := range v.Cells {
		other.Cells = append(other.Cells, slices.Clone(cells))
	}
	change(&other)
	return other
}

func TestEnvOk(t *testing.T) {
	checkEnv(t, "roomy", roomy(), roomyEnv(), true)
	checkEnv(t, "fullest", fullest(), envFor(fullest()), true)
	checkEnv(t, "the least one", impl.Prog{Width: 1}, impl.Env{}, true)
	checkEnv(t, "the least one, of lists", impl.Prog{Width: 1}, impl.Env{Vars: []int64{}, Cells: [][]int64{}}, true)
	checkEnv(t, "nothing of a Prog with all", roomy(), impl.Env{}, false)
	checkEnv(t, "another one's", roomy(), envFor(fullest()), false)
	checkEnv(t, "another one's, the other way", fullest(), roomyEnv(), false)
	greater := roomyEnv()
	greater.Vars = []int64{7, 7, 7, 7, 7, 7}
	checkEnv(t, "values past each Max", roomy(), greater, true)
}

// TestOneTooManyOrTooFew changes how many there are of one kind.
func TestOneTooManyOrTooFew(t *testing.T) {
	for _, p := range []impl.Prog{roomy(), fullest(), {Width: 1, Temps: 1, Arrays: []int64{1}}, {Width: 2, Secrets: maxes(3), Arrays: []int64{2, 2}}} {
		v := envFor(p)
		checkEnv(t, "as many", p, v, true)
		changes := map[string]func(v *impl.Env){
			"a variable more":       func(v *impl.Env) { v.Vars = append(v.Vars, 1) },
			"a variable less":       func(v *impl.Env) { v.Vars = v.Vars[1:] },
			"no variables":          func(v *impl.Env) { v.Vars = nil },
			"many variables":        func(v *impl.Env) { v.Vars = slices.Repeat(v.Vars, 5000) },
			"an array more":         func(v *impl.Env) { v.Cells = append(v.Cells, []int64{1}) },
			"an empty array more":   func(v *impl.Env) { v.Cells = append(v.Cells, nil) },
			"an array less":         func(v *impl.Env) { v.Cells = v.Cells[:len(v.Cells)-1] },
			"no arrays":             func(v *impl.Env) { v.Cells = nil },
			"arrays of nothing":     func(v *impl.Env) { v.Cells = make([][]int64, len(v.Cells)) },
			"a cell for a variable": func(v *impl.Env) { v.Vars, v.Cells[0] = v.Vars[1:], append(v.Cells[0], 1) },
		}
		for array := range p.Arrays {
			changes[fmt.Sprintf("a cell more of %d", array)] = func(v *impl.Env) { v.Cells[array] = append(v.Cells[array], 1) }
			changes[fmt.Sprintf("a cell less of %d", array)] = func(v *impl.Env) { v.Cells[array] = v.Cells[array][1:] }
			changes[fmt.Sprintf("no cells of %d", array)] = func(v *impl.Env) { v.Cells[array] = nil }
		}
		for name, change := range changes {
			checkEnv(t, name, p, changedEnv(v, change), false)
		}
	}
	swapped := changedEnv(roomyEnv(), func(v *impl.Env) { slices.Reverse(v.Cells) })
	checkEnv(t, "arrays swapped", roomy(), swapped, false)
}

// TestValuesAtEachPlace has each value, and what is none, at each place.
func TestValuesAtEachPlace(t *testing.T) {
	for width := int64(1); width <= 8; width++ {
		p := impl.Prog{Width: width, Lows: maxes(1, 0), Secrets: maxes(0, 1), Temps: 2, Arrays: []int64{3, 2}}
		power := int64(1) << width
		for _, n := range append([]int64{-power, -power + 1, -1, 0, 1, power - 1, power, power + 1, 2*power - 1}, far[3:]...) {
			name := fmt.Sprintf("%d at Width %d", n, width)
			right := n >= 0 && n < power
			for at := range 6 {
				checkEnv(t, name, p, changedEnv(envFor(p), func(v *impl.Env) { v.Vars[at] = n }), right)
			}
			for array, size := range p.Arrays {
				for at := range size {
					checkEnv(t, name, p, changedEnv(envFor(p), func(v *impl.Env) { v.Cells[array][at] = n }), right)
				}
			}
		}
	}
}

// TestValuesOfProgramsThatAreNotRight: whatever is asked of such a Prog, there
// is no value and no trap.
func TestValuesOfProgramsThatAreNotRight(t *testing.T) {
	for _, f := range allFaults() {
		p := broken(f)
		v := envFor(p)
		checkEnv(t, f.name, p, v, false)
		checkEnv(t, f.name, p, changedEnv(v, func(v *impl.Env) { v.Vars = nil }), false)
		checkEnv(t, f.name+", nothing", p, impl.Env{}, false)
	}
	checkEnv(t, "the right one", broken(), envFor(broken()), true)
	checkEnv(t, "the zero Prog", impl.Prog{}, impl.Env{}, false)
	for _, width := range append([]int64{-8, -1, 0, 9, 62, 63, 64, 65}, far...) {
		checkEnv(t, fmt.Sprintf("Width %d", width), impl.Prog{Width: width}, impl.Env{}, false)
	}
}

func TestValuesOfNoExpression(t *testing.T) {
	trap := []impl.Term{num(1), num(0), sign(impl.TmDiv)}
	for _, e := range badExpressions() {
		checkNoValue(t, fullest(), envFor(fullest()), e)
		if behind := joined(trap, e); !isExpression(behind) {
			checkNoValue(t, fullest(), envFor(fullest()), behind)
		}
	}
}

// unfit are Terms that are right in an expression, but not in roomy.
var unfit = []impl.Term{num(8), num(9), num(255), variable(6), variable(7), variable(255), cell(2), cell(3), cell(255)}

// TestTermsThatDoNotFit: what is not right goes ahead of a trap, wherever it is.
func TestTermsThatDoNotFit(t *testing.T) {
	p, v := roomy(), roomyEnv()
	add, choose := times(1, sign(impl.TmAdd)), times(1, sign(impl.TmIf))
	for _, last := range unfit {
		e := single(last)
		if last.Op == impl.TmCell {
			e[0] = num(0)
		}
		if !impl.ExpOk(e) {
			t.Fatalf("%v is no expression", e)
		}
		checkNoValue(t, p, v, e)
		checkNoValue(t, p, v, append(slices.Clone(e), sign(impl.TmNot)))
		checkNoValue(t, p, v, append(slices.Clone(e), cell(1)))
		checkNoValue(t, p, v, joined(one(), e, add))
		checkNoValue(t, p, v, joined(e, one(), add))
		checkNoValue(t, p, v, joined(one(), one(), e, choose))
		checkNoValue(t, p, v, joined([]impl.Term{num(0)}, e, one(), choose))
		for _, a := range trapping {
			checkNoValue(t, p, v, joined(a.e, e, add))
			checkNoValue(t, p, v, joined(e, a.e, add))
		}
	}
}

// TestWhatThereIsFits has each number, variable and array that there is, and
// the next one, in Progs of all sizes.
func TestWhatThereIsFits(t *testing.T) {
	source := rand.New(rand.NewSource(51))
	for range 300 {
		p := grownProg(source)
		v := grownEnv(source, p)
		counts := []int64{1 << p.Width, int64(len(v.Vars)), int64(len(v.Cells))}
		for op, count := range counts {
			for n := range min(count+2, 256) {
				e := []impl.Term{num(0), num(0), {Op: int64(op), N: n}, sign(impl.TmIf)}
				if op == impl.TmCell {
					e = []impl.Term{num(0), {Op: impl.TmCell, N: n}}
				}
				if n < count {
					checkReckoned(t, p, v, e)
				} else {
					checkNoValue(t, p, v, e)
				}
			}
		}
	}
}

// wideOnes are in roomy, each of so many Terms: an even number of them.
func wideOnes(count int) [][]impl.Term {
	not, add, sub, choose := sign(impl.TmNot), sign(impl.TmAdd), sign(impl.TmSub), sign(impl.TmIf)
	threes := (count - 1) / 3
	return [][]impl.Term{
		joined(times(1, variable(3)), times(count-1, not)),
		joined(times(1, num(0)), times(count-1, cell(1))),
		joined(times(1, variable(5)), times(count/2-1, num(3), sub), times(1, not)),
		joined(times(count/2, variable(0)), times(count/2-1, sub), times(1, sign(impl.TmNeg))),
		joined(times(1, num(4)), times(threes, num(5), variable(1), choose), times(count-1-3*threes, not)),
		joined(times(1+2*threes, num(4)), times(threes, choose), times(count-1-3*threes, not)),
		joined(times(1, variable(2)), times(count/2-2, not), times(1, variable(3)), times(count/2-1, not), times(1, add)),
	}
}

// TestWideExpressions: a Body may have no more than MaxTerms, but more may be
// reckoned.
func TestWideExpressions(t *testing.T) {
	p, v := roomy(), roomyEnv()
	for _, count := range []int{40, 42, 100, 1000, 2998, 3000} {
		for _, e := range wideOnes(count) {
			if len(e) != count {
				t.Fatalf("%d Terms, not %d", len(e), count)
			}
			checkReckoned(t, p, v, e)
		}
	}
	for _, e := range wideOnes(3000) {
		checkNoValue(t, p, v, append(slices.Clone(e), sign(impl.TmNot)))
		checkNoValue(t, p, v, append(slices.Clone(e), num(1), sign(impl.TmAdd)))
	}
}

func TestWideValuesByHand(t *testing.T) {
	p, v := fullest(), envFor(fullest())
	not, add := sign(impl.TmNot), sign(impl.TmAdd)
	checkNoTrap(t, p, v, joined(one(), times(40, not)), 1)
	checkNoTrap(t, p, v, joined(one(), times(41, not)), 254)
	checkNoTrap(t, p, v, joined(one(), times(2999, not)), 254)
	checkNoTrap(t, p, v, joined(one(), times(1499, num(1), add), times(1, not)), 255-1500%256)
	checkNoTrap(t, p, v, joined(times(1500, variable(0)), times(1499, add), times(1, not)), 255-1500%256)
	checkNoValue(t, p, v, joined(one(), times(3000, not)))
	checkNoValue(t, p, v, joined(one(), times(1500, num(1), add)))
}

// TestTrapsOfWideExpressions has traps at the first Terms, at the last ones,
// and both.
func TestTrapsOfWideExpressions(t *testing.T) {
	p, v := roomy(), roomyEnv()
	div, out := []impl.Term{num(1), num(0), sign(impl.TmDiv)}, []impl.Term{num(7), cell(1)}
	middle := times(1494, num(1), sign(impl.TmAdd))
	late := []impl.Term{num(0), sign(impl.TmMod)}
	past := []impl.Term{num(7), sign(impl.TmOr), cell(0)}
	checkValue(t, p, v, joined(div, middle), 0, impl.TrDiv, 1494%8)
	checkValue(t, p, v, joined(out, middle), 0, impl.TrCell, 1494%8)
	checkValue(t, p, v, joined(one(), middle, late), 0, impl.TrDiv, 0)
	checkValue(t, p, v, joined(one(), middle, past), 0, impl.TrCell, 0)
	checkValue(t, p, v, joined(div, middle, past), 0, impl.TrDiv, 0)
	checkValue(t, p, v, joined(out, middle, late), 0, impl.TrCell, 0)
	checkValue(t, p, v, joined(one(), times(2998, sign(impl.TmNeg)), times(1, cell(0))), 0, impl.TrCell, 0)
	checkValue(t, p, v, joined(div, middle, past, times(6, sign(impl.TmNot))), 0, impl.TrDiv, 0)
	checkNoValue(t, p, v, joined(div, middle, past, times(7, sign(impl.TmNot))))
}

func grownEnv(source *rand.Rand, p impl.Prog) impl.Env {
	v := envFor(p)
	for _, list := range append(slices.Clone(v.Cells), v.Vars) {
		for i := range list {
			list[i] = source.Int63n(1 << p.Width)
		}
	}
	return v
}

// grownWide makes an expression that may have a TmIf here and there.
func grownWide(source *rand.Rand, p impl.Prog, size int) []impl.Term {
	if size < 4 || source.Intn(3) == 0 {
		return grownIn(source, p, min(size, 12))
	}
	first := grownWide(source, p, size/3)
	second := grownWide(source, p, size/3)
	if source.Intn(2) == 0 {
		return joined(first, second, times(1, sign(impl.TmAdd+source.Int63n(12))))
	}
	return joined(first, second, grownWide(source, p, size/3), times(1, sign(impl.TmIf)))
}

// TestPlainIsTheValueWhereThereIsNoTrap is the promise.
func TestPlainIsTheValueWhereThereIsNoTrap(t *testing.T) {
	source := rand.New(rand.NewSource(52))
	var trapped, free, chosen int
	for range 800 {
		p := grownProg(source)
		for range 25 {
			v := grownEnv(source, p)
			e := grownWide(source, p, 1+source.Intn(90))
			value, trap := impl.ValueIn(p, v, e)
			if plain := impl.PlainIn(p, v, e); trap == impl.TrNone && plain != value || plain < 0 || plain >= 1<<p.Width {
				t.Errorf("ValueIn of %v = %d, PlainIn = %d", e, value, plain)
			}
			if checkReckoned(t, p, v, e) {
				trapped++
			} else {
				free++
			}
			if slices.Contains(e, sign(impl.TmIf)) {
				chosen++
			}
		}
	}
	if trapped < 2000 || free < 2000 || chosen < 2000 {
		t.Errorf("%d with a trap, %d without, %d with a TmIf", trapped, free, chosen)
	}
}

// TestFirstTrapOfAllParts: the trap of the whole is that of the first place at
// which a part ends that has one; the whole is free where all parts are.
func TestFirstTrapOfAllParts(t *testing.T) {
	source := rand.New(rand.NewSource(53))
	for range 1500 {
		p := grownProg(source)
		v := grownEnv(source, p)
		e := grownWide(source, p, 1+source.Intn(60))
		want := int64(impl.TrNone)
		for at := range e {
			_, trap := impl.ValueIn(p, v, e[beginning(e, at):at+1])
			if trap != impl.TrNone {
				want = trap
				break
			}
		}
		if _, got := impl.ValueIn(p, v, e); got != want {
			t.Errorf("ValueIn of %v traps by %d, but its parts by %d", e, got, want)
		}
	}
}

// TestValueOfParts: each part of what has no trap may be taken for its value.
func TestValueOfParts(t *testing.T) {
	source := rand.New(rand.NewSource(54))
	for range 1500 {
		p := grownProg(source)
		v := grownEnv(source, p)
		e := grownWide(source, p, 1+source.Intn(60))
		at := source.Intn(len(e))
		first := beginning(e, at)
		part, trap := impl.ValueIn(p, v, e[first:at+1])
		if trap != impl.TrNone {
			continue
		}
		short := joined(e[:first], []impl.Term{num(part)}, e[at+1:])
		want, by := impl.ValueIn(p, v, e)
		checkValue(t, p, v, short, want, by, impl.PlainIn(p, v, e))
	}
}

// spaciousEnv is the Env with marked spare room behind each list.
func spaciousEnv(v impl.Env) impl.Env {
	v.Vars = roomBehind(v.Vars, spareMark)
	v.Cells = roomBehind(v.Cells, []int64{spareMark})
	for i, cells := range v.Cells {
		v.Cells[i] = roomBehind(cells, spareMark)
	}
	return v
}

// listsOf are all lists of an Env, their spare room and all.
func listsOf(v impl.Env) [][]int64 {
	lists := [][]int64{v.Vars[:cap(v.Vars)]}
	for _, cells := range v.Cells[:cap(v.Cells)] {
		lists = append(lists, cells[:cap(cells)])
	}
	return lists
}

// checkValueStays asks all of the chapter, and tells what it wrote into.
func checkValueStays(t *testing.T, p impl.Prog, v impl.Env, e []impl.Term) {
	t.Helper()
	given, kept, a := spaciousEnv(v), spaciousEnv(v), termsArgument(e)
	checkStays(t, fmt.Sprint(brief(e)), p, func(p impl.Prog) {
		impl.EnvOk(p, given)
		impl.ValueIn(p, given, a.list)
		impl.PlainIn(p, given, a.list)
	})
	if !slices.EqualFunc(listsOf(given), listsOf(kept), slices.Equal) {
		t.Errorf("%v: the Env was %v, is %v", brief(e), listsOf(kept), listsOf(given))
	}
	if !a.untouched() {
		t.Errorf("%d Terms %v: the argument was written into", len(e), brief(e))
	}
}

func TestValueArgumentsStay(t *testing.T) {
	source := rand.New(rand.NewSource(55))
	for range 300 {
		p := grownProg(source)
		checkValueStays(t, p, grownEnv(source, p), grownWide(source, p, 60))
	}
	for _, e := range slices.Concat(wideOnes(3000), badExpressions()[:40], asksOfAll) {
		checkValueStays(t, roomy(), roomyEnv(), e)
	}
	for _, f := range allFaults() {
		checkValueStays(t, broken(f), envFor(broken(f)), asksOfAll[1])
	}
	checkValueStays(t, roomy(), envFor(fullest()), asksOfAll[0])
}

// TestNothingIsKept: a trap, or one that is refused, leaves nothing behind.
func TestNothingIsKept(t *testing.T) {
	p, v := roomy(), roomyEnv()
	for range 3 {
		checkNoTrap(t, p, v, []impl.Term{variable(0)}, 6)
		checkValue(t, p, v, []impl.Term{num(1), cell(0)}, 0, impl.TrCell, 0)
		checkNoValue(t, p, v, []impl.Term{variable(6)})
		checkValue(t, p, v, []impl.Term{num(1), num(0), sign(impl.TmMod)}, 0, impl.TrDiv, 0)
		checkNoTrap(t, p, v, []impl.Term{num(2), cell(1)}, 3)
	}
	v.Vars[0], v.Cells[1][2] = 2, 5
	checkNoTrap(t, p, v, []impl.Term{variable(0)}, 2)
	checkNoTrap(t, p, v, []impl.Term{num(2), cell(1)}, 5)
}
