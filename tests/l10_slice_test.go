package tests

import (
	"fmt"
	"math/rand"
	"slices"
	"strings"
	"testing"

	"loop.example/g00697/impl"
)

// wish is what one Stmt makes needed: all that is in it, where what it changes
// is needed, or in any case, where that is 0. A name is a power of 2; the arrays
// are behind the variables.
type wish struct {
	changed int
	within  int
}

func nameBits(p impl.Prog, e []impl.Term) int {
	bits := 0
	for _, term := range e {
		switch term.Op {
		case impl.TmVar:
			bits |= 1 << term.N
		case impl.TmCell:
			bits |= 1 << (countNames(p) - len(p.Arrays) + int(term.N))
		}
	}
	return bits
}

func countNames(p impl.Prog) int {
	return len(p.Lows) + len(p.Secrets) + int(p.Temps) + len(p.Arrays)
}

// changedBit is 0 of a Stmt that changes nothing, or that may trap.
func changedBit(p impl.Prog, s impl.Stmt) int {
	switch {
	case stmtMayTrapBy(p, s):
		return 0
	case s.Op == impl.StSet:
		return nameBits(p, []impl.Term{variable(s.N)})
	case s.Op == impl.StPut:
		return nameBits(p, []impl.Term{cell(s.N)})
	}
	return 0
}

// leastNeeded goes through all sets of names: the least one in which all is
// that the Stmts make needed is what is in each of these.
func leastNeeded(p impl.Prog) int {
	var wishes []wish
	for _, s := range p.Body {
		wishes = append(wishes, wish{changedBit(p, s), nameBits(p, joined(s.At, s.Exp))})
	}
	least := 1<<countNames(p) - 1
sets:
	for names := range least + 1 {
		for _, w := range wishes {
			if names&w.changed == w.changed && names&w.within != w.within {
				continue sets
			}
		}
		least &= names
	}
	return least
}

// slicedBy leaves out each Stmt that changes what is not among these names.
func slicedBy(p impl.Prog, names int) impl.Prog {
	body := slices.Clone(p.Body)
	p.Body = slices.DeleteFunc(body, func(s impl.Stmt) bool { return changedBit(p, s)&^names != 0 })
	return p
}

func numbersOfBits(names, first, count int) []int64 {
	var list []int64
	for n := range count {
		if names>>(first+n)%2 == 1 {
			list = append(list, int64(n))
		}
	}
	return list
}

func checkNeeded(t *testing.T, p impl.Prog, variables, arrays []int64) {
	t.Helper()
	gotVariables, gotArrays := impl.NeededIn(p)
	if !slices.Equal(gotVariables, variables) || !slices.Equal(gotArrays, arrays) {
		t.Errorf("NeededIn is %v, %v; want %v, %v of\n%s", gotVariables, gotArrays, variables, arrays, writtenProg(p))
	}
}

// checkSliced: a slice is right, in no more steps, and a slice of it is it.
func checkSliced(t *testing.T, p, want impl.Prog) {
	t.Helper()
	got := impl.Sliced(p)
	if !sameProgs(got, want) || !impl.ProgOk(got) || impl.StepsOf(got) > impl.StepsOf(p) {
		t.Errorf("Sliced is\n%s; want\n%s of\n%s", writtenProg(got), writtenProg(want), writtenProg(p))
	}
	if again := impl.Sliced(got); !sameProgs(again, got) {
		t.Errorf("a slice of a slice is\n%s, not\n%s", writtenProg(again), writtenProg(got))
	}
}

// checkSlice holds both functions against the least set of names, also of the
// slice itself, and answers that one.
func checkSlice(t *testing.T, p impl.Prog) impl.Prog {
	t.Helper()
	names := leastNeeded(p)
	count := countNames(p) - len(p.Arrays)
	variables, arrays := numbersOfBits(names, 0, count), numbersOfBits(names, count, len(p.Arrays))
	want := slicedBy(p, names)
	checkNeeded(t, p, variables, arrays)
	checkNeeded(t, want, variables, arrays)
	checkSliced(t, p, want)
	return want
}

// sliceCase is a Body behind flowHead, the numbers of the variables and of the
// arrays that are needed, and what is left of it: * is all of it.
type sliceCase struct {
	body   string
	needed string
	left   string
}

func checkSliceCases(t *testing.T, cases []sliceCase) {
	t.Helper()
	for _, c := range cases {
		p, want := behindFlowHead(t, c.body), behindFlowHead(t, strings.Replace(c.left, "*", c.body, 1))
		variables, arrays, _ := strings.Cut(c.needed, " ")
		checkNeeded(t, p, ofDigits(variables), ofDigits(arrays))
		checkSliced(t, p, want)
		if slice := checkSlice(t, p); !sameProgs(slice, want) {
			t.Errorf("the test wants %q of %q, but by the least set it is\n%s", c.left, c.body, writtenProg(slice))
		}
		checkTellsTheSame(t, p, want)
	}
}

func behindFlowHead(t *testing.T, body string) impl.Prog {
	t.Helper()
	return ofText(t, strings.TrimSuffix(flowHead+"; "+body, "; "))
}

// checkTellsTheSame runs a program and what is made of it with every input. It
// answers how many of these runs end by a trap.
func checkTellsTheSame(t *testing.T, p, made impl.Prog) int {
	t.Helper()
	traps := 0
	for _, list := range everyInput(p) {
		lows, secrets := list[:len(p.Lows)], list[len(p.Lows):]
		o, _ := impl.RunOf(p, lows, secrets)
		if got, is := impl.RunOf(made, lows, secrets); !is || !sameOutcomes(o, got) {
			t.Errorf("with %v and %v, %v is told, but %v by what is made, of\n%s", lows, secrets, o, got, writtenProg(p))
			break
		}
		traps += int(oneWhere(o.End == impl.EnTrap))
	}
	return traps
}

// TestNeededByWhatIsSeen: flowHead has l0 (0), s0 to s2 (1 to 3), t0 to t3 (4
// to 7), m0 of 2 cells and m1 of 3.
func TestNeededByWhatIsSeen(t *testing.T) {
	checkSliceCases(t, []sliceCase{
		// nothing is needed
		{"", " ", ""}, {"out 5", " ", "*"}, {"if 1; end", " ", "*"}, {"throw 1", " ", "*"}, {"loop 2; end", " ", "*"}, {"try; catch 1; end", " ", "*"}, {"out (1 / 0)", " ", "*"}, {"loop 0; end; out !0; throw 3", " ", "*"},
		// each name alone
		{"out l0", "0 ", "*"}, {"out s0", "1 ", "*"}, {"out s1", "2 ", "*"}, {"out s2", "3 ", "*"}, {"out t0", "4 ", "*"}, {"out t1", "5 ", "*"}, {"out t2", "6 ", "*"}, {"out t3", "7 ", "*"}, {"out m0[0]", " 0", "*"}, {"out m1[2]", " 1", "*"},
		{"if l0; end", "0 ", "*"}, {"if s0; end", "1 ", "*"}, {"if s2; end", "3 ", "*"}, {"if t0; end", "4 ", "*"}, {"if t3; end", "7 ", "*"}, {"if m0[1]; end", " 0", "*"}, {"if m1[0]; end", " 1", "*"},
		// in no order, and more than once
		{"out (t3 + (t0 + (s2 - l0)))", "0347 ", "*"}, {"out ((t1 * t1) ^ (t1 & t1))", "5 ", "*"}, {"out (m1[0] + m0[0])", " 01", "*"}, {"out (m1[1] | (m1[2] + m1[1]))", " 1", "*"}, {"out t2; out s1; out t2; out l0", "026 ", "*"},
		{"if t3; if t1; end; end; if s0; end", "157 ", "*"}, {"if m1[0]; out m0[0]; end", " 01", "*"}, {"out ((m1[2] < s2) == (m0[1] - t3))", "37 01", "*"}, {"out (((t3 + t2) + (t1 + t0)) + ((s2 + s1) + (s0 + l0)))", "01234567 ", "*"},
		// deep within
		{"out !-(1 + !(2 - -t2))", "6 ", "*"}, {"if (!m0[1] << 1); end", " 0", "*"}, {"out (0 & s1)", "2 ", "*"}, {"out (s1 - s1)", "2 ", "*"}, {"out m1[m0[t1]]", "5 01", "*"}, {"out m1[(s0 & 1)]", "1 1", "*"}, {"out (s2 / 2)", "3 ", "*"}, {"out (1 % s2)", "3 ", "*"},
		// in a block, an empty one, a loop of 0, behind what ends it
		{"if s1; else; end", "2 ", "*"}, {"if l0; else; if s1; end; end", "02 ", "*"}, {"loop 0; out t2; end", "6 ", "*"}, {"loop 0; if s1; end; end", "2 ", "*"}, {"loop 0; loop 0; if m1[0]; else; out t0; end; end; end", "4 1", "*"},
		{"if 0; out t1; end", "5 ", "*"}, {"if 1; else; out t1; end", "5 ", "*"}, {"throw 1; out t3", "7 ", "*"}, {"out (1 / 0); if t3; end", "7 ", "*"}, {"try; if t1; end; catch 3; out m0[1]; end", "5 0", "*"}, {"try; throw 1; out s0; catch 2; if s1; end; end", "12 ", "*"},
	})
}

// TestNeededByWhatIsSet: those of a StSet and of a StPut that may not trap.
func TestNeededByWhatIsSet(t *testing.T) {
	checkSliceCases(t, []sliceCase{
		// what is set is not needed, or it is
		{"t0 = s0", " ", ""}, {"t0 = 1", " ", ""}, {"m0[0] = s0", " ", ""}, {"m1[2] = 7", " ", ""}, {"t0 = s0; out t0", "14 ", "*"}, {"out t0; t0 = s0", "14 ", "*"}, {"m0[0] = s0; out m0[0]", "1 0", "*"}, {"out m0[1]; m0[0] = s0", "1 0", "*"},
		{"t0 = s0; out t1", "5 ", "out t1"}, {"m0[0] = s0; out m1[0]", " 1", "out m1[0]"}, {"m1[0] = s0; out m0[0]", " 0", "out m0[0]"}, {"t0 = s0; t0 = l0; if t0; end", "014 ", "*"}, {"t0 = 1; out t0; t1 = 1; out 1; t0 = 2", "4 ", "t0 = 1; out t0; out 1; t0 = 2"},
		{"t0 = s0; t1 = s1; t2 = s2; out t1", "25 ", "t1 = s1; out t1"}, {"m0[1] = s1; m1[1] = s2; if m1[1]; end", "3 1", "m1[1] = s2; if m1[1]; end"}, {"t0 = (s0 + (s1 * l0)); out t0", "0124 ", "*"},
		// a variable and an array, two variables and two arrays of the same number
		{"t0 = s0; m0[0] = s1; out t0", "14 ", "t0 = s0; out t0"}, {"t0 = s0; m0[0] = s1; out m0[0]", "2 0", "m0[0] = s1; out m0[0]"}, {"m0[0] = s1; m1[0] = s2; out l0", "0 ", "out l0"}, {"m0[0] = s1; m1[0] = s2; out s0", "1 ", "out s0"},
		// by its own Exp alone, or by its own At
		{"t0 = (t0 + 1)", " ", ""}, {"m0[0] = m0[1]", " ", ""}, {"m1[2] = (m1[0] * m1[1])", " ", ""}, {"t0 = t1; t1 = t0", " ", ""}, {"t0 = m0[0]; m0[1] = t0", " ", ""}, {"m0[0] = m1[0]; m1[0] = m0[0]", " ", ""}, {"loop 3; t0 = (t0 + s0); end", " ", "loop 3; end"},
		{"t0 = (1 / t0)", "4 ", "*"}, {"t0 = (t0 % t0)", "4 ", "*"}, {"t0 = m0[t0]", "4 0", "*"}, {"m0[m0[0]] = 1", " 0", "*"}, {"m0[0] = (1 / m0[0])", " 0", "*"}, {"m0[0] = m0[2]", " 0", "*"}, {"m0[0] = m0[m0[0]]", " 0", "*"}, {"m1[m1[0]] = s0; m1[0] = s1", "12 1", "*"},
		// from a variable to an array, and the other way round
		{"out t0; t0 = m0[1]", "4 0", "*"}, {"out m0[1]; m0[0] = t2", "6 0", "*"}, {"out t0; t0 = m0[1]; m0[0] = t1; t1 = m1[2]; m1[1] = s2", "345 01", "*"}, {"t0 = m0[0]; m0[0] = s0; out m1[0]; m1[0] = t1; t1 = s1", "25 1", "out m1[0]; m1[0] = t1; t1 = s1"},
		{"out m1[0]; m1[1] = m0[0]; m0[1] = l0", "0 01", "*"}, {"out m0[0]; m0[1] = m1[0]; m1[1] = t3; t3 = s2", "37 01", "*"}, {"out m0[0]; m1[1] = m0[0]; m0[1] = l0", "0 0", "out m0[0]; m0[1] = l0"},
		// a chain against the order, and with it
		{"out t0; t0 = t1; t1 = t2; t2 = t3; t3 = s2", "34567 ", "*"}, {"t3 = s2; t2 = t3; t1 = t2; t0 = t1; out t0", "34567 ", "*"}, {"t3 = s2; t2 = t3; t1 = t2; t0 = t1; out t2", "367 ", "t3 = s2; t2 = t3; out t2"}, {"out t2; t0 = t1; t1 = t2; t2 = t3; t3 = s2", "367 ", "out t2; t2 = t3; t3 = s2"},
		{"loop 4; out t0; t0 = t1; t1 = t2; t2 = t3; t3 = s2; end", "34567 ", "*"}, {"loop 4; if t0; end; t0 = t1; t1 = t2; t2 = t0; t3 = s2; end", "456 ", "loop 4; if t0; end; t0 = t1; t1 = t2; t2 = t0; end"}, {"loop 2; t0 = t1; t1 = t0; out t2; t2 = s0; end", "16 ", "loop 2; out t2; t2 = s0; end"},
		// what a block asks is not what is set in it: it is needed in any case
		{"if s0; t0 = 1; end", "1 ", "if s0; end"}, {"if s0; t0 = 1; end; out t0", "14 ", "*"}, {"if t1; t0 = 1; end; t1 = s1", "25 ", "if t1; end; t1 = s1"}, {"if 1; t0 = s1; else; t0 = s2; end; out t0", "234 ", "*"}, {"try; t0 = s0; throw 1; catch 1; out t0; t1 = 1; end", "14 ", "try; t0 = s0; throw 1; catch 1; out t0; end"},
	})
}

// TestNeededByWhatMayTrap: what is set or put is needed by nobody.
func TestNeededByWhatMayTrap(t *testing.T) {
	checkSliceCases(t, []sliceCase{
		{"t0 = (1 / s0)", "1 ", "*"}, {"t0 = (s0 / 2)", " ", ""}, {"t0 = (s0 / 0)", "1 ", "*"}, {"t0 = (1 % l0)", "0 ", "*"}, {"t0 = (t1 % t2)", "56 ", "*"}, {"t0 = (t1 % 7)", " ", ""}, {"t0 = (s1 % 0)", "2 ", "*"}, {"t0 = (1 / 0)", " ", "*"}, {"t0 = (t3 / !0)", "7 ", "*"},
		{"t0 = m0[t3]", "7 0", "*"}, {"t0 = m0[2]", " 0", "*"}, {"t0 = m0[1]", " ", ""}, {"t0 = m1[2]", " ", ""}, {"t0 = m1[3]", " 1", "*"}, {"t0 = m1[(1 - 1)]", " 1", "*"}, {"t0 = (m1[2] / s0)", "1 1", "*"}, {"t0 = (m1[2] / 3)", " ", ""}, {"t0 = ((1 / s2) + (t1 * m1[0]))", "35 1", "*"}, {"t0 = -(s1 + !(m1[s0] < 3))", "12 1", "*"},
		// a StPut: one number that is less than the size, one that is not, no number
		{"m0[0] = t2", " ", ""}, {"m0[1] = t2", " ", ""}, {"m0[2] = t2", "6 ", "*"}, {"m0[3] = t2", "6 ", "*"}, {"m0[7] = t2", "6 ", "*"}, {"m1[0] = t2", " ", ""}, {"m1[2] = t2", " ", ""}, {"m1[3] = t2", "6 ", "*"}, {"m1[7] = m0[0]", " 0", "*"},
		{"m0[s1] = t2", "26 ", "*"}, {"m0[t0] = 1", "4 ", "*"}, {"m0[-0] = t1", "5 ", "*"}, {"m0[!7] = s0", "1 ", "*"}, {"m1[(1 + 1)] = s0", "1 ", "*"}, {"m0[(s1 & 1)] = l0", "02 ", "*"}, {"m0[m1[0]] = s2", "3 1", "*"}, {"m1[m0[1]] = t3", "7 0", "*"}, {"m0[(s0 / 2)] = 1", "1 ", "*"},
		{"m0[(1 / s0)] = t1", "15 ", "*"}, {"m0[m1[s0]] = t1", "15 1", "*"}, {"m0[0] = (1 / s0)", "1 ", "*"}, {"m0[0] = (s0 / 3)", " ", ""}, {"m0[0] = m1[s0]", "1 1", "*"}, {"m0[0] = m1[2]", " ", ""}, {"m0[1] = m0[1]", " ", ""}, {"m0[1] = m0[2]", " 0", "*"}, {"m0[2] = m0[1]", " 0", "*"},
		// it stays, but others of the same name do not
		{"t0 = (1 / s0); t0 = s1; t0 = (s2 % 3)", "1 ", "t0 = (1 / s0)"}, {"m0[s0] = 1; m0[0] = s1; m0[2] = s2; m0[1] = l0", "13 ", "m0[s0] = 1; m0[2] = s2"}, {"t0 = s1; t0 = m0[2]; t0 = m0[1]; m0[0] = s2", "3 0", "t0 = m0[2]; m0[0] = s2"}, {"t0 = 1; t0 = (1 / t0)", "4 ", "*"},
		// what is behind it stays, too
		{"t1 = s1; t0 = (1 / t1)", "25 ", "*"}, {"t0 = (1 / t1); t1 = t2; t2 = s0; t3 = t0", "156 ", "t0 = (1 / t1); t1 = t2; t2 = s0"}, {"m0[0] = s1; m1[m0[0]] = t1; t1 = 2; m1[0] = s0", "25 0", "m0[0] = s1; m1[m0[0]] = t1; t1 = 2"}, {"m1[t1] = t2; t1 = s1; t2 = s2; t3 = m1[0]", "2356 ", "m1[t1] = t2; t1 = s1; t2 = s2"},
		// what goes makes nothing needed
		{"t1 = s1; t0 = (t1 / 2)", " ", ""}, {"m0[0] = s1; t0 = m0[0]; t1 = t0", " ", ""}, {"t0 = s0; t1 = t0; m1[2] = t1; out m0[0]", " 0", "out m0[0]"},
		// an StIf and an StOut that may trap, a loop of 0, behind an StThrow
		{"if (1 / s0); t0 = 1; end", "1 ", "if (1 / s0); end"}, {"out m1[t3]; t3 = s0; t2 = s1", "17 1", "out m1[t3]; t3 = s0"}, {"loop 0; t0 = (1 / s2); end", "3 ", "*"}, {"loop 0; m0[l0] = m1[0]; end", "0 1", "*"}, {"throw 1; t0 = (1 / s2)", "3 ", "*"}, {"try; t0 = m0[s1]; catch 1; t1 = (1 / t0); end", "24 0", "*"}, {"if 0; t0 = (s1 / 0); end", "2 ", "*"},
	})
}

// TestEachStmtThatMayTrapStays: each number as an index and as a divisor, at
// each Width, of arrays of each size.
func TestEachStmtThatMayTrapStays(t *testing.T) {
	for width := range int64(8) {
		for size := int64(1); size <= 6; size++ {
			p := impl.Prog{Width: width + 1, Secrets: maxes(1), Temps: 1, Arrays: []int64{7 - size, size}}
			for n := range min(int64(2)<<width, 20) {
				checkStaysWhere(t, p, n >= size, put(1, []impl.Term{num(n)}, []impl.Term{variable(0)}))
				checkStaysWhere(t, p, n >= 7-size, put(0, []impl.Term{num(n)}, []impl.Term{variable(0)}))
				checkStaysWhere(t, p, n >= size, set(1, []impl.Term{num(n), cell(1), variable(0), sign(impl.TmAdd)}))
				checkStaysWhere(t, p, n == 0, set(1, []impl.Term{variable(0), num(n), sign(impl.TmMod)}))
				checkStaysWhere(t, p, n == 0, put(1, []impl.Term{num(0)}, []impl.Term{variable(0), num(n), sign(impl.TmDiv)}))
			}
			checkStaysWhere(t, p, true, put(1, []impl.Term{variable(0)}, one()))
		}
	}
}

// checkStaysWhere has one Stmt, with the Secret in it, of which nothing is
// needed but that it may trap.
func checkStaysWhere(t *testing.T, p impl.Prog, may bool, s impl.Stmt) {
	t.Helper()
	p.Body = []impl.Stmt{s}
	if got := len(impl.Sliced(p).Body) == 1; got != may {
		t.Errorf("it stays is %v; want %v of\n%s", got, may, writtenProg(p))
	}
	variables, _ := impl.NeededIn(p)
	if got := slices.Equal(variables, []int64{0}); got != may {
		t.Errorf("needed are %v, of\n%s", variables, writtenProg(p))
	}
	checkSlice(t, p)
}

// TestWhatStaysAndWhatGoes: all other Stmts stay in their order.
func TestWhatStaysAndWhatGoes(t *testing.T) {
	checkSliceCases(t, []sliceCase{
		// bodies become empty
		{"if s0; t0 = 1; else; t1 = 1; end", "1 ", "if s0; else; end"}, {"if s0; t0 = 1; else; out 1; end", "1 ", "if s0; else; out 1; end"}, {"if s0; out 2; else; t0 = 1; end", "1 ", "if s0; out 2; else; end"}, {"loop 3; t0 = 1; m0[0] = t0; end", " ", "loop 3; end"},
		{"try; t0 = 1; catch 1; t1 = 1; end", " ", "try; catch 1; end"}, {"try; t0 = 1; throw 4; catch 4; m0[0] = 1; end", " ", "try; throw 4; catch 4; end"}, {"try; t0 = 1; catch 9; throw 0; end", " ", "try; catch 9; throw 0; end"},
		{"if s0; loop 2; try; t0 = 1; catch 1; t0 = 2; end; end; end", "1 ", "if s0; loop 2; try; catch 1; end; end; end"}, {"loop 0; t0 = 1; loop 1; m1[2] = 1; end; t3 = 1; end", " ", "loop 0; loop 1; end; end"},
		// ahead of, within and behind each block
		{"t0 = 1; if s0; t0 = 2; end; t0 = 3", "1 ", "if s0; end"}, {"t0 = 1; loop 4; t0 = 2; end; t0 = 3", " ", "loop 4; end"}, {"t0 = 1; try; t0 = 2; catch 7; t0 = 3; end; t0 = 4", " ", "try; catch 7; end"}, {"t0 = 1; throw 6; t0 = 3", " ", "throw 6"}, {"t0 = 1; out 6; t0 = 3", " ", "out 6"},
		{"t0 = 1; out 1; t0 = 2; out 2; t1 = 3; out t1; t0 = 4; out 3; t1 = 5", "5 ", "out 1; out 2; t1 = 3; out t1; out 3; t1 = 5"}, {"m0[0] = 1; m1[0] = 2; m0[1] = 3; m1[1] = 4; out m1[0]; m0[0] = 5; m1[2] = 6", " 1", "m1[0] = 2; m1[1] = 4; out m1[0]; m1[2] = 6"},
		{"t1 = l0; if t1; t0 = 1; out 1; t2 = s0; else; t2 = s1; out t2; t0 = 2; end; t0 = 3; loop 2; t3 = t2; t2 = t0; end", "012456 ", "t1 = l0; if t1; t0 = 1; out 1; t2 = s0; else; t2 = s1; out t2; t0 = 2; end; t0 = 3; loop 2; t2 = t0; end"},
		// nothing goes
		{"t0 = s0; m0[1] = t0; out m0[1]; throw 2", "14 0", "*"}, {"loop 2; if s0; throw 1; else; out 2; end; end", "1 ", "*"}, {"m0[s0] = 1; t0 = (1 / s1); try; catch 1; end", "12 ", "*"},
		// the same Stmt twice, and once as what may trap
		{"t0 = s0; t0 = s0; out 1; out 1", " ", "out 1; out 1"}, {"m0[1] = s0; m0[2] = s0; m0[1] = s0; m0[2] = s0", "1 ", "m0[2] = s0; m0[2] = s0"},
	})
}

// without leaves out all Stmts with these Ops.
func without(p impl.Prog, ops ...int64) impl.Prog {
	p.Body = slices.DeleteFunc(slices.Clone(p.Body), func(s impl.Stmt) bool { return slices.Contains(ops, s.Op) })
	return p
}

// TestSlicesOfManyStmts: as many as may be, of which all go, or all but one
// that is told anywhere, or those that are behind it, or none.
func TestSlicesOfManyStmts(t *testing.T) {
	sets, puts := set(6, []impl.Term{variable(3)}), put(0, one(), []impl.Term{variable(7)})
	for count := range 41 {
		p := fullest(slices.Concat(slices.Repeat([]impl.Stmt{sets}, count), slices.Repeat([]impl.Stmt{puts}, 40-count))...)
		checkSliced(t, p, fullest())
		checkNeeded(t, p, nil, nil)
		for at := range p.Body {
			q := p
			q.Body = slices.Clone(p.Body)
			q.Body[at] = told(num(int64(at)))
			checkSliced(t, q, without(q, impl.StSet, impl.StPut))
			checkNeeded(t, q, nil, nil)
			q.Body[at] = told(variable(6))
			checkSliced(t, q, without(q, impl.StPut))
			q.Body[at] = told(num(0), cell(0))
			checkSliced(t, q, without(q, impl.StSet))
			q.Body[at] = told(num(0), cell(0), variable(6), sign(impl.TmAdd))
			checkSliced(t, q, q)
		}
	}
	none := impl.Prog{Width: 1}
	checkSliced(t, none, none)
	checkNeeded(t, none, nil, nil)
	checkSliced(t, fullest(outs(40)...), fullest(outs(40)...))
}

// TestHeadsStay: whatever is needed of them.
func TestHeadsStay(t *testing.T) {
	inputs := []impl.Input{{Max: 1, Budget: 99}, {Max: 0, Budget: 0}, {Max: 3, Budget: 7}}
	for width := range int64(8) {
		for count := range 4 {
			for temps := range int64(7) {
				for _, arrays := range [][]int64{nil, {1}, {6}, {1, 6}, {6, 1}, {3, 3}} {
					p := impl.Prog{Width: width + 1, Secrets: slices.Clone(inputs[:count]), Lows: maxes(0, 1, 1)[:3-count], Temps: temps, Arrays: arrays}
					if width == 0 && count == 3 {
						p.Secrets[2].Max = 1
					}
					for n := range temps {
						p.Body = append(p.Body, set(3+n, one()))
					}
					for array := range arrays {
						p.Body = append(p.Body, put(int64(array), []impl.Term{num(0)}, one()))
					}
					want := p
					want.Body = nil
					checkSliced(t, p, want)
				}
			}
		}
	}
}

// TestNeededThroughLongChains: of all variables and all arrays, each by the
// one Stmt of the one ahead of it.
func TestNeededThroughLongChains(t *testing.T) {
	plainly, within := linkPlainly, linkWithin
	guarded := func(at int64, from []impl.Term) []impl.Stmt {
		return []impl.Stmt{plain(impl.StTry), numbered(impl.StCatch, 1), set(at, from), plain(impl.StEnd)}
	}
	for _, p := range append(chainHeads(), impl.Prog{Width: 2, Lows: maxes(1, 1)}) {
		for _, links := range [][]func(int64, []impl.Term) []impl.Stmt{{plainly}, {within}, {guarded, plainly}, {plainly, within, guarded}} {
			checkChain(t, chain(p, links))
		}
	}
}

// checkChain: all of it stays, in any order of its Stmts; and where the first
// link is not told, all StSets and StPuts go.
func checkChain(t *testing.T, p impl.Prog) {
	t.Helper()
	first := int64(len(p.Lows) + len(p.Secrets))
	var variables, arrays []int64
	for n := first - 1; n < first+p.Temps; n++ {
		variables = append(variables, n)
	}
	for n := range p.Arrays {
		arrays = append(arrays, int64(n))
	}
	checkNeeded(t, p, variables, arrays)
	checkSliced(t, p, p)
	last := p.Body[0].Exp
	p.Body[0] = told(num(1))
	checkNeeded(t, p, nil, nil)
	checkSliced(t, p, without(p, impl.StSet, impl.StPut))
	p.Body = append(wrapped(asked(last...)), p.Body[1:]...)
	checkNeeded(t, p, variables, arrays)
	checkSliced(t, p, p)
	slices.Reverse(p.Body)
	p.Body = slices.DeleteFunc(p.Body, func(s impl.Stmt) bool { return s.Op > impl.StPut })
	p.Body = append(p.Body, asked(last...), plain(impl.StEnd))
	checkNeeded(t, p, variables, arrays)
	checkSliced(t, p, p)
}

// TestNeededInAnyOrder: of StSets and StPuts in any order, the same ones stay.
func TestNeededInAnyOrder(t *testing.T) {
	source := rand.New(rand.NewSource(101))
	for range 100 {
		p := fullest()
		for range 2 + source.Intn(9) {
			s := set(6+source.Int63n(6), grownIn(source, p, 1+source.Intn(5)))
			if source.Intn(3) == 0 {
				s = put(source.Int63n(2), []impl.Term{num(0)}, s.Exp)
			}
			if source.Intn(4) > 0 {
				s.Exp = calm(p, s.Exp)
			}
			p.Body = append(p.Body, s)
		}
		p.Body = append(p.Body, told(variable(6+source.Int63n(6))))
		checkSlice(t, p)
		variables, arrays := impl.NeededIn(p)
		for range 4 {
			source.Shuffle(len(p.Body), func(i, j int) { p.Body[i], p.Body[j] = p.Body[j], p.Body[i] })
			checkNeeded(t, p, variables, arrays)
			checkSliced(t, p, slicedBy(p, leastNeeded(p)))
		}
	}
}

// sliceStmts make up short Bodies, some of which are cut; one traps where t0
// is 0.
var sliceStmts = []impl.Stmt{
	told(variable(4)), set(4, []impl.Term{variable(2)}), set(4, []impl.Term{num(0), cell(0)}), set(5, []impl.Term{num(3), variable(4), sign(impl.TmDiv)}), put(0, []impl.Term{num(0)}, []impl.Term{variable(5)}), numbered(impl.StThrow, 1),
	asked(variable(5)), plain(impl.StElse), plain(impl.StEnd), numbered(impl.StLoop, 2), plain(impl.StTry), numbered(impl.StCatch, 1),
}

func TestSlicesOfAllShortBodies(t *testing.T) {
	count, cut, traps := 0, 0, 0
	eachShortBody(sliceStmts, nil, nil, 5, func(body []impl.Stmt) {
		p := roomy(body...)
		p.Lows, p.Secrets = maxes(0, 0), maxes(1, 0)
		slice := checkSlice(t, p)
		trapped := checkTellsTheSame(t, p, slice)
		count++
		if len(slice.Body) < len(body) {
			cut++
			traps += trapped
		}
	})
	if count < 9000 || cut < 2000 || traps < 1000 {
		t.Errorf("%d bodies, %d are cut, %d traps of these: too few to tell", count, cut, traps)
	}
}

// seldomSeen makes, of a right Prog, one of which often something goes: of what
// is told or asked, half is but a number, and few expressions may trap. It
// answers with false where that is not right.
func seldomSeen(source *rand.Rand, p impl.Prog) (impl.Prog, bool) {
	for i, s := range p.Body {
		told := s.Op == impl.StOut || s.Op == impl.StIf
		switch {
		case told && source.Intn(2) == 0:
			p.Body[i].Exp = []impl.Term{num(source.Int63n(2))}
		case len(s.Exp) > 0 && source.Intn(8) > 0:
			p.Body[i].Exp = calm(p, s.Exp)
		}
		if s.Op == impl.StPut && source.Intn(8) > 0 {
			p.Body[i].At = []impl.Term{num(0)}
		}
	}
	return p, impl.ProgOk(p) && len(p.Body) > 2
}

// mayTrapEarly puts one more Stmt into the Body, which traps where an input is
// 0, or where it is no cell.
func mayTrapEarly(source *rand.Rand, p impl.Prog) impl.Prog {
	first := len(p.Lows) + len(p.Secrets)
	by := variable(source.Int63n(int64(first)))
	s := told(num(1))
	switch {
	case len(p.Arrays) > 0 && source.Intn(2) == 0:
		s = put(source.Int63n(int64(len(p.Arrays))), []impl.Term{by}, one())
	case p.Temps > 0:
		s = set(int64(first)+source.Int63n(p.Temps), []impl.Term{num(1), by, sign(impl.TmDiv)})
	}
	p.Body = slices.Insert(slices.Clone(p.Body), source.Intn(2), s)
	return p
}

// grownSlices makes a right Prog with a Secret, and with short expressions.
func grownSlices(source *rand.Rand) impl.Prog {
	for {
		p, is := seldomSeen(source, lively(source, grownProg(source)))
		if !is || len(p.Secrets) == 0 {
			continue
		}
		if source.Intn(2) == 0 {
			p = mayTrapEarly(source, p)
		}
		if impl.ProgOk(p) {
			return p
		}
	}
}

// TestASliceTellsTheSame is the promise, over many programs.
func TestASliceTellsTheSame(t *testing.T) {
	source := rand.New(rand.NewSource(102))
	var cut, partly, traps, shorter int
	for range 1500 {
		p := grownSlices(source)
		slice := checkSlice(t, p)
		trapped := checkTellsTheSame(t, p, slice)
		if len(slice.Body) == len(p.Body) {
			continue
		}
		cut++
		partly += int(oneWhere(!sameProgs(slice, without(p, impl.StSet, impl.StPut))))
		traps += int(oneWhere(trapped > 0))
		shorter += int(oneWhere(impl.StepsOf(slice) < impl.StepsOf(p)))
		checkStepsOfRuns(t, source, p, slice)
	}
	if cut < 500 || partly < 300 || traps < 100 || shorter < 500 {
		t.Errorf("%d are cut, %d of them partly, %d trap, %d are shorter: too few to tell", cut, partly, traps, shorter)
	}
}

// checkStepsOfRuns: a run of the slice makes no more steps.
func checkStepsOfRuns(t *testing.T, source *rand.Rand, p, slice impl.Prog) {
	t.Helper()
	for range 5 {
		lows, secrets := grownValues(source, p.Lows), grownValues(source, p.Secrets)
		steps, fewer := byMachine(p, lows, secrets).steps, byMachine(slice, lows, secrets).steps
		if fewer > steps {
			t.Errorf("with %v and %v, %d steps, but %d of the slice, of\n%s", lows, secrets, steps, fewer, writtenProg(p))
		}
	}
}

// TestSlicesOfGrownPrograms: with long expressions, and wherever it ends.
func TestSlicesOfGrownPrograms(t *testing.T) {
	source := rand.New(rand.NewSource(103))
	cut := 0
	for range 1500 {
		checkSlice(t, grownProg(source))
		p, is := seldomSeen(source, grownProg(source))
		if !is {
			continue
		}
		slice := checkSlice(t, p)
		cut += int(oneWhere(len(slice.Body) < len(p.Body)))
		lows, secrets := grownValues(source, p.Lows), grownValues(source, p.Secrets)
		o, _ := impl.RunOf(p, lows, secrets)
		if got, is := impl.RunOf(impl.Sliced(p), lows, secrets); !is || !sameOutcomes(o, got) {
			t.Errorf("%v is told, but %v by the slice, of\n%s", o, got, writtenProg(p))
		}
	}
	if cut < 100 {
		t.Errorf("%d are cut: too few to tell", cut)
	}
}

// TestWhatIsNotNeededIsQuiet: labels leak of a slice as of the program, and
// just as many Outcomes hang on each Secret.
func TestWhatIsNotNeededIsQuiet(t *testing.T) {
	source := rand.New(rand.NewSource(104))
	missed := 0
	for range 600 {
		p := grownSlices(source)
		slice := impl.Sliced(p)
		before, after := impl.FlowOf(p), impl.FlowOf(slice)
		if before.Escape != after.Escape || before.Leaks != after.Leaks {
			t.Errorf("the Flow is %v, but %v of the slice, of\n%s", before, after, writtenProg(p))
		}
		variables, _ := impl.NeededIn(p)
		for secret := range p.Secrets {
			if slices.Contains(variables, int64(len(p.Lows)+secret)) {
				continue
			}
			missed += int(oneWhere(isInBody(p, secret)))
			if !impl.IsQuiet(p, int64(secret)) || impl.MostFor(p, int64(secret)) != 1 {
				t.Errorf("the Secret %d is not needed, but it can matter, of\n%s", secret, writtenProg(p))
			}
		}
		if !slices.Equal(mosts(p), mosts(slice)) {
			t.Errorf("%v Outcomes, but %v of the slice, of\n%s", mosts(p), mosts(slice), writtenProg(p))
		}
	}
	if missed < 50 {
		t.Errorf("%d are named and not needed: too few to tell", missed)
	}
}

// checkNoSlice: nothing is told of a Prog that is not right.
func checkNoSlice(t *testing.T, name string, p impl.Prog) {
	t.Helper()
	if impl.ProgOk(p) {
		t.Errorf("%s is right", name)
	}
	if variables, arrays := impl.NeededIn(p); len(variables) != 0 || len(arrays) != 0 {
		t.Errorf("%s: NeededIn is %v, %v; want nothing", name, variables, arrays)
	}
	if got := impl.Sliced(p); !sameProgs(got, impl.Prog{}) {
		t.Errorf("%s: Sliced is %v; want the zero Prog", name, got)
	}
}

func TestSlicesOfProgramsThatAreNotRight(t *testing.T) {
	eachWrongProg(func(name string, p impl.Prog) { checkNoSlice(t, name, p) })
	right := broken()
	right.Body = append(right.Body, set(2, one()), told(variable(1)), told(num(0), cell(0)))
	checkNeeded(t, right, []int64{1}, []int64{0})
	checkSliced(t, right, without(right, impl.StSet))
	// what is wrong is what would go
	for _, s := range []impl.Stmt{set(3, one()), set(6, one()), set(-1, one()), set(4, nil), set(4, []impl.Term{num(8)}), put(2, []impl.Term{num(0)}, one()), put(-1, []impl.Term{num(0)}, one()), {Op: impl.StSet, N: 4, At: one(), Exp: one()}} {
		checkNoSlice(t, "a Stmt that is not right", roomy(s))
		checkNoSlice(t, "a Stmt that is not right", roomy(told(variable(2)), s))
	}
	checkNoSlice(t, "41 Stmts that would go", roomy(slices.Repeat([]impl.Stmt{set(4, one())}, 41)...))
	checkNoSlice(t, "more steps than may be, but for those that would go", roomy(loops(slices.Repeat([]impl.Stmt{set(4, one())}, 30), 4, 4)...))
}

// listsOfTerms are those of all Stmts.
func listsOfTerms(p impl.Prog) [][]impl.Term {
	var lists [][]impl.Term
	for _, s := range p.Body {
		lists = append(lists, s.At, s.Exp)
	}
	return lists
}

// askAllOfSlices spoils each answer and asks again.
func askAllOfSlices(t *testing.T, p impl.Prog) {
	t.Helper()
	variables, arrays := impl.NeededIn(p)
	checkApart(t, "NeededIn", spoiledMark, variables, arrays)
	checkFresh(t, "NeededIn", func() []int64 { list, _ := impl.NeededIn(p); return list })
	checkFresh(t, "NeededIn", func() []int64 { _, list := impl.NeededIn(p); return list })
	first := impl.Sliced(p)
	kept := writtenAnyProg(first)
	checkApart(t, "Sliced", spoiledTerm, listsOfTerms(first)...)
	checkApart(t, "Sliced", impl.Input{Max: spoiledMark}, first.Lows, first.Secrets)
	spoilProg(first)
	if again := writtenAnyProg(impl.Sliced(p)); again != kept {
		t.Errorf("Sliced is %s, then %s: it is kept from call to call, or a part of an argument", kept, again)
	}
}

// writtenAnyProg tells all of it, also of one that is not right.
func writtenAnyProg(p impl.Prog) string {
	return fmt.Sprintf("%d %v %v %d %v %v", p.Width, p.Lows, p.Secrets, p.Temps, p.Arrays, p.Body)
}

func checkSlicesStay(t *testing.T, name string, p impl.Prog) {
	t.Helper()
	checkStays(t, name, p, func(given impl.Prog) { askAllOfSlices(t, given) })
}

func TestSlicesAreNewAndArgumentsStay(t *testing.T) {
	source := rand.New(rand.NewSource(105))
	for range 300 {
		checkSlicesStay(t, "a right Prog", grownSlices(source))
		checkSlicesStay(t, "a right Prog", grownProg(source))
	}
	for _, f := range allFaults() {
		checkSlicesStay(t, f.name, broken(f))
	}
	checkSlicesStay(t, "one without Stmts", impl.Prog{Width: 1, Temps: 2, Arrays: []int64{1, 1}})
	checkSlicesStay(t, "nothing goes", roomy(told(variable(4)), set(4, one()), put(0, []impl.Term{variable(4)}, []impl.Term{variable(2)})))
	checkSlicesStay(t, "all goes", roomy(set(4, one()), put(1, one(), []impl.Term{variable(2)})))
}

// TestSlicesOfSharedLists: lists that are one in the argument are several in
// the answer.
func TestSlicesOfSharedLists(t *testing.T) {
	e := []impl.Term{num(0), cell(1)}
	p := roomy(put(0, e, e), put(0, e, e), set(4, e), told(e...), asked(e...), plain(impl.StEnd), set(5, e))
	p.Lows = maxes(3, 3)
	p.Secrets = p.Lows
	before := writtenProg(p)
	slice := impl.Sliced(p)
	checkSliced(t, p, without(p, impl.StSet))
	checkApart(t, "Sliced", spoiledTerm, listsOfTerms(slice)...)
	checkApart(t, "Sliced", impl.Input{Max: spoiledMark}, slice.Lows, slice.Secrets)
	spoilProg(slice)
	if writtenProg(p) != before {
		t.Errorf("Sliced shares a list with its argument, which is now\n%s", writtenProg(p))
	}
}

// TestSlicesTellTheSameAgain, whatever else is asked in between.
func TestSlicesTellTheSameAgain(t *testing.T) {
	p, q := behindFlowHead(t, "t0 = m0[1]; t1 = s0; m0[0] = t2; t3 = (1 / t3); out t0"), ofText(t, "width 2; secret 1 0; temps 0; out s0")
	want := behindFlowHead(t, "t0 = m0[1]; m0[0] = t2; t3 = (1 / t3); out t0")
	for range 50 {
		checkNeeded(t, p, []int64{4, 6, 7}, []int64{0})
		checkSliced(t, p, want)
		checkNeeded(t, q, []int64{0}, nil)
		checkSliced(t, q, q)
		checkNoSlice(t, "the zero Prog", impl.Prog{})
	}
}
