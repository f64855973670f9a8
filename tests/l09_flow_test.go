package tests

import (
	"fmt"
	"math/rand"
	"slices"
	"strings"
	"testing"

	"loop.example/g00697/impl"
)

// isOneBelow: is it one number, and less than so many?
func isOneBelow(e []impl.Term, count int64) bool {
	return len(e) == 1 && e[0].Op == impl.TmNum && e[0].N < count
}

// mayTrapBy looks at the Term ahead of each one that may trap: what it takes
// last ends there, and is one number just where that Term is.
func mayTrapBy(p impl.Prog, e []impl.Term) bool {
	for at, term := range e {
		switch term.Op {
		case impl.TmDiv, impl.TmMod:
			if e[at-1].Op != impl.TmNum || e[at-1].N == 0 {
				return true
			}
		case impl.TmCell:
			if !isOneBelow(e[at-1:at], p.Arrays[term.N]) {
				return true
			}
		}
	}
	return false
}

func stmtMayTrapBy(p impl.Prog, s impl.Stmt) bool {
	if s.Op == impl.StPut && !isOneBelow(s.At, p.Arrays[s.N]) {
		return true
	}
	return mayTrapBy(p, s.At) || mayTrapBy(p, s.Exp)
}

// labelBy unites the labels of all names in some expressions.
func labelBy(f impl.Flow, lists ...[]impl.Term) int64 {
	label := int64(0)
	for _, term := range slices.Concat(lists...) {
		switch term.Op {
		case impl.TmVar:
			label |= f.Vars[term.N]
		case impl.TmCell:
			label |= f.Arrays[term.N]
		}
	}
	return label
}

func unitedOf(labels []int64) int64 {
	united := int64(0)
	for _, label := range labels {
		united |= label
	}
	return united
}

// flowOnce goes over the Body from the first Stmt to the last, with the labels
// of the blocks that are open on a stack, and unites what is known so far.
func flowOnce(p impl.Prog, f *impl.Flow) {
	var open []int64
	for _, s := range p.Body {
		context := unitedOf(open) | f.Escape
		taken := labelBy(*f, s.At, s.Exp)
		if stmtMayTrapBy(p, s) {
			f.Escape |= taken | context
		}
		switch s.Op {
		case impl.StSet:
			f.Vars[s.N] |= taken | context
		case impl.StPut:
			f.Arrays[s.N] |= taken | context
		case impl.StThrow:
			f.Escape |= context
		case impl.StOut:
			f.Leaks |= taken | context
		case impl.StIf, impl.StLoop, impl.StTry:
			open = append(open, taken)
		case impl.StEnd:
			open = open[:len(open)-1]
		}
		f.Leaks |= f.Escape
	}
}

func sameFlows(a, b impl.Flow) bool {
	return slices.Equal(a.Vars, b.Vars) && slices.Equal(a.Arrays, b.Arrays) && a.Escape == b.Escape && a.Leaks == b.Leaks
}

func clonedFlow(f impl.Flow) impl.Flow {
	f.Vars, f.Arrays = slices.Clone(f.Vars), slices.Clone(f.Arrays)
	return f
}

// flowBy begins with the Secrets alone and goes over all Stmts again until
// nothing is new. It answers how often something was, too.
func flowBy(p impl.Prog) (impl.Flow, int) {
	lows, secrets := len(p.Lows), len(p.Secrets)
	f := impl.Flow{Vars: make([]int64, lows+secrets+int(p.Temps)), Arrays: make([]int64, len(p.Arrays))}
	for secret := range secrets {
		f.Vars[lows+secret] = 1 << secret
	}
	for rounds := 0; ; rounds++ {
		before := clonedFlow(f)
		if flowOnce(p, &f); sameFlows(before, f) {
			return f, rounds
		}
	}
}

// checkFlow holds FlowOf and IsQuiet against the labels, and answers them.
func checkFlow(t *testing.T, p impl.Prog, want impl.Flow) impl.Flow {
	t.Helper()
	if got := impl.FlowOf(p); !sameFlows(got, want) {
		t.Errorf("FlowOf is %v; want %v of\n%s", got, want, writtenProg(p))
	}
	for secret := range p.Secrets {
		quiet := want.Leaks/(1<<secret)%2 == 0
		if got := impl.IsQuiet(p, int64(secret)); got != quiet {
			t.Errorf("IsQuiet %d is %v; Leaks are %d of\n%s", secret, got, want.Leaks, writtenProg(p))
		}
	}
	checkNoSecretsQuiet(t, p, len(p.Secrets))
	return want
}

// checkNoSecretsQuiet asks of what are no Secrets: all from there on.
func checkNoSecretsQuiet(t *testing.T, p impl.Prog, from int) {
	t.Helper()
	for secret := from; secret < 70; secret++ {
		if impl.IsQuiet(p, int64(secret)) {
			t.Errorf("IsQuiet %d of %d Secrets is true", secret, len(p.Secrets))
		}
	}
	for _, secret := range append(noSecrets, -3, -62, -63, -64, -65) {
		if impl.IsQuiet(p, secret) {
			t.Errorf("IsQuiet %d is true", secret)
		}
	}
}

func checkByLabels(t *testing.T, p impl.Prog) impl.Flow {
	t.Helper()
	want, _ := flowBy(p)
	return checkFlow(t, p, want)
}

func checkTraps(t *testing.T, p impl.Prog, e []impl.Term, want bool) {
	t.Helper()
	if got := impl.MayTrap(p, e); got != want {
		t.Errorf("MayTrap of %d Terms %v is %v; want %v", len(e), brief(e), got, want)
	}
}

// TestMayTrapByHand: arrays of roomy have 1 cell and 6 cells.
func TestMayTrapByHand(t *testing.T) {
	mayNot := "0, 7, l0, l1, s0, s1, t1, !t0, -s0, (l0 + s0), (s0 - 1), (s1 * t0), (7 & 0), (s0 | 1), (s1 ^ s1), (0 << s1), (s1 >> 0), (s0 == 0), (0 < s0), " +
		"(s0 / 1), (s0 / 2), (0 / 7), (s0 % 1), (s0 % 4), (0 % 7), ((s0 + 1) / 3), ((l0 % 2) / 3), ((l0 / 2) % 3), m0[0], m1[0], m1[1], m1[5], (m0[0] + m1[5]), (m1[4] / 5), !m0[0]"
	may := "(s0 / 0), (s0 % 0), (7 / 0), (7 % 0), (0 / 0), (0 % 0), (s0 / l0), (s0 % l1), (s0 / s0), (s0 % s1), (1 / t0), (1 % t1), " +
		// what is never 0, but no number
		"(1 / !0), (1 % !0), (1 / -1), (1 % -7), (1 / (1 + 1)), (1 % (2 - 1)), (1 / (s0 | 1)), (1 % (s0 == s0)), (2 / (2 / 1)), (2 % (7 % 4)), (1 / m0[0]), (1 % m1[5]), " +
		"(1 / (0 + 0)), (1 % !7), (1 / -0), (1 % (s0 & 0)), " +
		"m0[1], m0[2], m0[7], m1[6], m1[7], m0[l1], m1[l0], m0[s0], m1[s1], m0[t0], m1[t1], " +
		// what there is always, but by no number
		"m0[-0], m0[!7], m1[!7], m0[(1 - 1)], m1[(2 + 3)], m0[(s0 & 0)], m1[(s0 & 3)], m0[(s1 / 7)], m1[(s1 % 6)], m0[m0[0]], m1[m1[0]], m1[m0[0]], m0[m1[5]], " +
		"m1[(3 + 3)], m0[!0]"
	for _, text := range strings.Split(mayNot, ", ") {
		checkTraps(t, roomy(), inWords(t, roomy(), text), false)
	}
	for _, text := range strings.Split(may, ", ") {
		checkTraps(t, roomy(), inWords(t, roomy(), text), true)
	}
}

// TestMayTrapOfEachDivisor: each number at each Width, as the first one that
// is taken and as the second one.
func TestMayTrapOfEachDivisor(t *testing.T) {
	for width := range int64(8) {
		p := impl.Prog{Width: width + 1, Secrets: maxes(1)}
		for n := range int64(2) << width {
			for _, op := range []int64{impl.TmDiv, impl.TmMod} {
				checkTraps(t, p, []impl.Term{variable(0), num(n), sign(op)}, n == 0)
				checkTraps(t, p, []impl.Term{num(n), num(1), sign(op)}, false)
				checkTraps(t, p, []impl.Term{num(n), variable(0), sign(op)}, true)
			}
		}
		for op := int64(impl.TmAdd); op < impl.TmIf; op++ {
			divides := op == impl.TmDiv || op == impl.TmMod
			for _, last := range []impl.Term{num(0), variable(0)} {
				checkTraps(t, p, []impl.Term{num(1), last, sign(op)}, divides)
				checkTraps(t, p, []impl.Term{last, num(1), sign(op)}, false)
			}
		}
	}
}

// TestMayTrapOfEachIndex: each number at each Width, of arrays of each size, on
// both sides of another one that is much greater or much less.
func TestMayTrapOfEachIndex(t *testing.T) {
	for width := range int64(8) {
		for size := int64(1); size <= 6; size++ {
			p := impl.Prog{Width: width + 1, Secrets: maxes(1), Arrays: []int64{size, 7 - size}}
			for n := range int64(2) << width {
				checkTraps(t, p, []impl.Term{num(n), cell(0)}, n >= size)
				checkTraps(t, p, []impl.Term{num(n), cell(1)}, n >= 7-size)
			}
			for array := range int64(2) {
				checkTraps(t, p, []impl.Term{variable(0), cell(array)}, true)
				checkTraps(t, p, []impl.Term{num(0), cell(array), cell(array)}, true)
				checkTraps(t, p, []impl.Term{num(0), cell(array)}, false)
			}
		}
	}
}

// around puts an expression at each place of what another Term takes; of what
// is no number at the last place of a TmDiv, a TmMod or a TmCell, nothing.
func around(e []impl.Term) [][]impl.Term {
	lists := [][]impl.Term{append(slices.Clone(e), sign(impl.TmNot)), append(slices.Clone(e), sign(impl.TmNeg))}
	for op := int64(impl.TmAdd); op < impl.TmIf; op++ {
		lists = append(lists, append(slices.Clone(e), num(1), sign(op)))
		if op != impl.TmDiv && op != impl.TmMod {
			lists = append(lists, joined(times(1, num(1)), e, times(1, sign(op))))
		}
	}
	return lists
}

// TestMayTrapWithinEachPlace: three deep, of what may trap and what may not.
func TestMayTrapWithinEachPlace(t *testing.T) {
	cases := map[string]bool{"(1 / 0)": true, "(1 % s0)": true, "m0[1]": true, "m1[s0]": true, "(1 / 7)": false, "(s0 % 1)": false, "m0[0]": false, "m1[5]": false, "0": false, "s1": false}
	for text, may := range cases {
		inner := inWords(t, roomy(), text)
		for _, one := range around(inner) {
			checkTraps(t, roomy(), one, may)
			for _, two := range around(one) {
				checkTraps(t, roomy(), two, may)
				checkTraps(t, roomy(), joined(inner, two, times(1, sign(impl.TmXor))), may)
				if may {
					for _, three := range around(two) {
						checkTraps(t, roomy(), three, true)
					}
				}
			}
		}
	}
}

// TestMayTrapOfEachOther: of two expressions side by side, it's enough that one
// of them may.
func TestMayTrapOfEachOther(t *testing.T) {
	for _, may := range []string{"(s0 / 0)", "(1 % l0)", "m0[3]", "m1[t0]"} {
		for _, mayNot := range []string{"(s0 / 3)", "(1 % 2)", "m0[0]", "m1[5]", "t0"} {
			for _, op := range "+-*&|^<" {
				for _, text := range []string{"(a %c b)", "(b %c a)", "((b %[1]c a) %[1]c b)", "((b %[1]c b) %[1]c (a %[1]c b))"} {
					text = strings.NewReplacer("a", may, "b", mayNot).Replace(fmt.Sprintf(text, op))
					checkTraps(t, roomy(), inWords(t, roomy(), text), true)
				}
			}
		}
	}
}

// TestMayTrapOfATmIf: there is none in a Body, so nothing is told of one.
func TestMayTrapOfATmIf(t *testing.T) {
	traps := [][]impl.Term{{num(1), num(0), sign(impl.TmDiv)}, {num(1), variable(2), sign(impl.TmMod)}, {num(7), cell(1)}, {variable(0), cell(0)}}
	choose := sign(impl.TmIf)
	for _, e := range traps {
		checkTraps(t, roomy(), e, true)
		for _, n := range []int64{0, 1} {
			checkTraps(t, roomy(), joined(times(1, num(n)), e, one(), times(1, choose)), false)
			checkTraps(t, roomy(), joined(times(1, num(n)), one(), e, times(1, choose)), false)
			checkTraps(t, roomy(), joined(e, times(2, num(n)), times(1, choose)), false)
			checkTraps(t, roomy(), joined(times(3, num(n)), times(1, choose), e, times(1, sign(impl.TmAdd))), false)
		}
	}
	checkTraps(t, roomy(), single(choose), false)
}

// trapsThatMayNotStand are expressions of roomy that would trap, but that may not stand in
// its Body.
func trapsThatMayNotStand() [][]impl.Term {
	div, mod, add := sign(impl.TmDiv), sign(impl.TmMod), sign(impl.TmAdd)
	list := [][]impl.Term{
		{num(1), num(8), div}, {num(8), num(0), div}, {num(1), num(255), mod}, {num(256), num(0), mod}, {num(1), num(-1), div}, {num(-1), num(0), div},
		{num(1), variable(6), div}, {variable(6), num(0), div}, {num(1), variable(-1), mod}, {variable(255), num(0), mod},
		{num(8), cell(0)}, {num(-1), cell(0)}, {num(1), cell(2)}, {num(1), cell(-1)}, {variable(0), cell(255)}, {num(0), cell(2), cell(0)}, {num(1), cell(0), cell(2)},
		{num(1), num(0), div, variable(6), add}, {variable(6), num(1), num(0), div, add}, {num(1), num(0), div, num(8), add}, {num(1), num(0), div, num(0), cell(2), add},
		// no expressions
		{num(0), div}, {num(1), num(0), div, num(1)}, {num(1), num(1), num(0), div}, {div}, {cell(0)}, {num(1), div, num(0)}, {num(1), cell(0), num(1)},
		{num(1), num(0), {Op: impl.TmDiv, N: 1}}, {num(1), num(0), {Op: impl.TmMod, N: -1}}, {num(1), num(0), div, sign(18)}, {num(1), num(0), div, sign(-1)}, {num(1), num(0), div, sign(impl.TmIf)},
	}
	return append(list, badExpressions()...)
}

func TestMayTrapOfWhatMayNotStand(t *testing.T) {
	for _, e := range trapsThatMayNotStand() {
		checkTraps(t, roomy(), e, false)
	}
	for _, e := range [][]impl.Term{nil, {}} {
		checkTraps(t, roomy(), e, false)
		checkTraps(t, impl.Prog{}, e, false)
	}
	// the other Prog has what roomy does not
	for _, e := range [][]impl.Term{{num(1), num(0), sign(impl.TmDiv), variable(6), sign(impl.TmAdd)}, {num(1), variable(11), sign(impl.TmMod)}, {num(255), num(0), sign(impl.TmDiv)}} {
		checkTraps(t, roomy(), e, false)
		checkTraps(t, fullest(), e, true)
	}
}

func TestMayTrapOfManyTerms(t *testing.T) {
	not, neg := sign(impl.TmNot), sign(impl.TmNeg)
	for _, trap := range [][]impl.Term{{num(1), num(0), sign(impl.TmDiv)}, {num(1), variable(3), sign(impl.TmMod)}, {num(1), num(1), sign(impl.TmAdd), cell(1)}, {num(7), cell(1)}} {
		for _, count := range []int{38, 39, 40, 41, 42, 100, 2999, 3000, 3001, 50000} {
			late := joined(times(1, num(1)), times(count-2-len(trap), not), trap, times(1, sign(impl.TmAdd)))
			for _, e := range [][]impl.Term{joined(trap, times(count-len(trap), neg)), late} {
				if len(e) != count {
					t.Fatalf("%d Terms, not %d", len(e), count)
				}
				checkTraps(t, roomy(), e, count <= 40)
			}
		}
	}
	checkTraps(t, roomy(), joined(times(1, num(1)), times(39, not)), false)
	for _, e := range longestOnes() {
		checkTraps(t, roomy(), e, mayTrapBy(roomy(), e))
	}
}

// flowHead has the Low 0, the Secrets 1 to 3, the Temps 4 to 7 and two arrays.
const flowHead = "width 3; low 1; secret 1 0; secret 1 0; secret 1 0; temps 4; array 2; array 3"

// flowCase is a Body behind flowHead, and the labels of the Temps, those of the
// arrays, Escape and Leaks.
type flowCase struct{ body, want string }

func checkFlowCases(t *testing.T, cases []flowCase) {
	t.Helper()
	for _, c := range cases {
		p := ofText(t, strings.TrimSuffix(flowHead+"; "+c.body, "; "))
		var temps, arrays string
		want := impl.Flow{}
		if _, err := fmt.Sscan(c.want, &temps, &arrays, &want.Escape, &want.Leaks); err != nil || len(temps) != 4 || len(arrays) != 2 {
			t.Fatalf("%q are no labels", c.want)
		}
		want.Vars, want.Arrays = append([]int64{0, 1, 2, 4}, ofDigits(temps)...), ofDigits(arrays)
		checkFlow(t, p, want)
		if by, _ := flowBy(p); !sameFlows(by, want) {
			t.Errorf("%s: the tests reckon %v, not %v", c.body, by, want)
		}
	}
}

func TestLabelsOfVariablesAndArrays(t *testing.T) {
	checkFlowCases(t, []flowCase{
		{"", "0000 00 0 0"}, {"t0 = 5", "0000 00 0 0"}, {"t0 = l0", "0000 00 0 0"}, {"t3 = l0; out t3", "0000 00 0 0"},
		{"t0 = s0", "1000 00 0 0"}, {"t1 = s1", "0200 00 0 0"}, {"t3 = s2", "0004 00 0 0"},
		{"t0 = (s0 + s2)", "5000 00 0 0"}, {"t0 = ((s0 + s2) * s1)", "7000 00 0 0"}, {"t2 = (l0 + s1)", "0020 00 0 0"},
		// what it is does not matter
		{"t0 = (s0 ^ s0)", "1000 00 0 0"}, {"t0 = (s1 & 0)", "2000 00 0 0"}, {"t0 = (s2 / 7)", "4000 00 0 0"}, {"out (s1 - s1)", "0000 00 0 2"},
		// nothing is taken away
		{"t0 = s0; t0 = 1", "1000 00 0 0"}, {"t0 = 1; t0 = s0", "1000 00 0 0"}, {"t0 = s0; t0 = s1", "3000 00 0 0"}, {"t0 = s2; t0 = (t0 - t0); out t0", "4000 00 0 4"},
		{"out t0; t0 = s1", "2000 00 0 2"}, {"t0 = s1; t1 = t0; t0 = 3; t2 = t0", "2220 00 0 0"},
		{"t0 = t0", "0000 00 0 0"}, {"t0 = (t0 + s0)", "1000 00 0 0"}, {"t0 = s0; t1 = s1; t2 = (t0 + t1)", "1230 00 0 0"},
		{"out s0", "0000 00 0 1"}, {"out s0; out s2", "0000 00 0 5"}, {"out l0", "0000 00 0 0"}, {"out 7", "0000 00 0 0"}, {"t0 = s0; out t1", "1000 00 0 0"},
		{"m0[0] = s0", "0000 10 0 0"}, {"m1[0] = s1", "0000 02 0 0"}, {"m0[0] = s0; m0[1] = s2", "0000 50 0 0"}, {"m0[1] = s0; m0[1] = 0", "0000 10 0 0"},
		{"m0[0] = s0; t0 = m0[1]", "1000 10 0 0"}, {"m0[0] = s0; t0 = m1[0]", "0000 10 0 0"}, {"m0[0] = s0; out m0[1]", "0000 10 0 1"}, {"m0[0] = s0; out m1[0]", "0000 10 0 0"},
		{"m0[0] = s1; m1[2] = m0[1]; t3 = m1[0]", "0002 22 0 0"}, {"m0[0] = t0; t0 = (s0 + m1[1]); m1[1] = s2", "5000 54 0 0"},
		// At that hangs on a Secret
		{"m0[s1] = 3", "0000 20 2 2"}, {"m0[s1] = s0", "0000 30 3 3"}, {"m1[(s2 & 1)] = 0", "0000 04 4 4"}, {"m0[(s0 - s0)] = l0", "0000 10 1 1"},
		{"t1 = s2; m1[t1] = s0", "0500 05 5 5"}, {"m0[0] = s1; m1[m0[0]] = 1", "0000 22 2 2"}, {"m0[m0[0]] = s2", "0000 40 4 4"}, {"m1[t0] = 1; t0 = s2", "4000 04 4 4"},
	})
}

// TestLabelsGoRound: those that need another round for each Stmt.
func TestLabelsGoRound(t *testing.T) {
	checkFlowCases(t, []flowCase{
		{"t1 = t0; t0 = s0", "1100 00 0 0"}, {"loop 4; t1 = t0; t0 = s0; end", "1100 00 0 0"}, {"loop 0; t1 = t0; t0 = s0; end", "1100 00 0 0"},
		{"t3 = t2; t2 = t1; t1 = t0; t0 = s1", "2222 00 0 0"}, {"loop 4; t3 = t2; t2 = t1; t1 = t0; t0 = s1; end", "2222 00 0 0"},
		{"t0 = t1; t1 = t0; t1 = s2", "4400 00 0 0"}, {"t0 = t1; t1 = t2; t2 = t0; t2 = s2; t0 = s0", "5550 00 0 0"},
		{"t0 = t1; t1 = t2; t2 = t3; t3 = t0", "0000 00 0 0"}, {"t0 = t1; t1 = t2; t2 = t3; t3 = (t0 ^ s0)", "1111 00 0 0"},
		{"out t0; t0 = t1; t1 = t2; t2 = s0; t2 = s1", "3330 00 0 3"},
		{"out m1[0]; m1[0] = m0[0]; m0[0] = t3; t3 = t2; t2 = s1", "0022 22 0 2"},
		{"loop 2; out t0; loop 3; t0 = m0[1]; m0[1] = (t1 / 2); end; t1 = m1[2]; end; m1[1] = s2", "4400 44 0 4"},
		// by what is asked
		{"if t0; t1 = 1; end; t0 = s2", "4400 00 0 0"}, {"if t2; t3 = 1; end; if t1; t2 = 1; end; if t0; t1 = 1; end; t0 = s0", "1111 00 0 0"},
		{"if m0[0]; out 1; end; m0[1] = s1", "0000 20 0 2"}, {"if t0; if t1; out 2; end; t1 = t3; end; t3 = s0; t0 = s2", "4501 00 0 5"},
		{"if t0; t0 = 1; end", "0000 00 0 0"}, {"if t0; t0 = s1; end", "2000 00 0 0"}, {"if t0; t1 = 0; else; t0 = t1; end; t1 = s0", "1100 00 0 0"},
		// by what escapes
		{"t0 = 1; if t1; throw 1; end; t1 = t2; t2 = s1", "2220 00 2 2"}, {"if t3; throw 1; end; t3 = t2; t2 = m0[t1]; t1 = s0", "0111 00 1 1"},
		{"if s0; throw 1; end; t0 = 1; if t0; t1 = s2; end", "1500 00 1 1"}, {"t0 = t1; out (1 / t0); t1 = s1; if t1; t2 = s2; end", "2260 00 2 2"},
	})
}

// TestContexts: within which StIfs a Stmt is.
func TestContexts(t *testing.T) {
	checkFlowCases(t, []flowCase{
		{"if s0; t0 = 1; end", "1000 00 0 0"}, {"if s0; else; t0 = 1; end", "1000 00 0 0"}, {"if s0; t0 = 1; else; t1 = 1; end", "1100 00 0 0"},
		{"if s0; t0 = s1; else; t1 = s2; end; t2 = 0", "3500 00 0 0"}, {"t0 = 1; if s0; end; t1 = 1", "0000 00 0 0"}, {"if s0; else; end; out 3", "0000 00 0 0"},
		{"if s0; t0 = 1; end; t1 = 1; if s1; t2 = 1; end", "1020 00 0 0"}, {"if l0; t0 = 1; out 1; end", "0000 00 0 0"}, {"if l0; t0 = s0; else; out s1; end", "1000 00 0 2"},
		{"if 0; out s1; end", "0000 00 0 2"}, {"if (s0 & 0); out 1; end", "0000 00 0 1"},
		{"if s0; out 1; end", "0000 00 0 1"}, {"if s0; else; out 1; end", "0000 00 0 1"}, {"if s0; out s1; end", "0000 00 0 3"}, {"if s0; end; out s1", "0000 00 0 2"},
		{"if s0; m1[0] = 3; end", "0000 01 0 0"}, {"if s0; m1[1] = s1; end; out m1[2]", "0000 03 0 3"}, {"if (s0 + s2); t0 = l0; end", "5000 00 0 0"},
		// an StIf in an StIf
		{"if s0; if s1; t0 = 1; end; t1 = 1; end; t2 = 1", "3100 00 0 0"}, {"if s0; t1 = 1; if s1; t0 = 1; end; end; t2 = 1", "3100 00 0 0"},
		{"if s0; if s1; else; t0 = 1; end; else; t1 = 1; end", "3100 00 0 0"}, {"if s0; else; if s1; t0 = 1; else; t1 = 1; end; t2 = 1; end", "3310 00 0 0"},
		{"if s0; if s1; if s2; out 0; end; end; end", "0000 00 0 7"}, {"if s0; if s1; if s2; end; out 0; end; end", "0000 00 0 3"}, {"if s0; if s1; if s2; end; end; out 0; end", "0000 00 0 1"},
		{"if s0; if s1; end; t0 = 1; else; if s2; end; t1 = 1; end; t2 = 1", "1100 00 0 0"}, {"if l0; if s1; t0 = 1; end; t1 = 1; end", "2000 00 0 0"}, {"if s1; if l0; t0 = 1; else; t1 = 1; end; end", "2200 00 0 0"},
		// a loop and a try add nothing of their own
		{"loop 3; t0 = 1; end", "0000 00 0 0"}, {"loop 3; out s1; end; out 1", "0000 00 0 2"}, {"try; t0 = 1; catch 1; t1 = 1; end", "0000 00 0 0"},
		{"try; t0 = s0; catch 1; t1 = s1; end; t2 = 2", "1200 00 0 0"}, {"try; if s0; t0 = 1; end; t1 = 1; catch 1; t2 = 1; end", "1000 00 0 0"},
		{"try; catch 1; if s0; t0 = 1; end; t1 = 1; end", "1000 00 0 0"}, {"loop 2; if s0; t0 = 1; else; t1 = 1; end; t2 = 1; end", "1100 00 0 0"},
		{"if s0; try; t0 = 1; catch 3; t1 = 1; end; t2 = 1; loop 1; t3 = 1; end; end", "1111 00 0 0"}, {"if s1; loop 2; out 1; end; end", "0000 00 0 2"}, {"if s1; else; try; catch 1; out 1; end; end", "0000 00 0 2"},
		{"if s0; loop 2; if s1; t0 = 1; end; t1 = 1; end; t2 = 1; end; t3 = 1", "3110 00 0 0"}, {"if s0; try; if s1; t0 = 1; end; catch 1; if s2; t1 = 1; end; end; t2 = 1; end", "3510 00 0 0"},
		{"loop 1; loop 1; if s0; loop 1; out 1; end; end; end; end", "0000 00 0 1"}, {"try; try; catch 2; end; catch 1; try; if s2; out 1; end; catch 2; end; end", "0000 00 0 4"},
	})
}

// TestWhatATrapLetsEscape: what may trap where, and what it does not.
func TestWhatATrapLetsEscape(t *testing.T) {
	checkFlowCases(t, []flowCase{
		{"out (1 / s0)", "0000 00 1 1"}, {"out (s0 / 2)", "0000 00 0 1"}, {"out (s0 / 0)", "0000 00 1 1"}, {"out (1 / 0)", "0000 00 0 0"}, {"out (1 % l0)", "0000 00 0 0"},
		{"t0 = (1 / s0)", "1000 00 1 1"}, {"t0 = (1 / l0)", "0000 00 0 0"}, {"t0 = ((1 / l0) + s1)", "2000 00 2 2"}, {"t0 = (s1 % (l0 | 1))", "2000 00 2 2"},
		{"t0 = m1[s0]", "1000 00 1 1"}, {"t0 = m1[(s0 & 1)]", "1000 00 1 1"}, {"t0 = m1[2]", "0000 00 0 0"}, {"m1[0] = s2; t0 = m1[3]", "4000 04 4 4"}, {"m1[0] = s2; t0 = m1[2]", "4000 04 0 0"}, {"m1[0] = s2; t0 = m1[l0]", "4000 04 4 4"},
		// an StPut
		{"m0[0] = s1", "0000 20 0 0"}, {"m0[1] = s1", "0000 20 0 0"}, {"m0[2] = s1", "0000 20 2 2"}, {"m0[7] = s1", "0000 20 2 2"}, {"m1[2] = s1", "0000 02 0 0"}, {"m1[3] = s1", "0000 02 2 2"},
		{"m0[2] = l0", "0000 00 0 0"}, {"m0[l0] = 1", "0000 00 0 0"}, {"m0[l0] = s2", "0000 40 4 4"}, {"m0[(1 - 1)] = s0", "0000 10 1 1"}, {"m0[!7] = s0", "0000 10 1 1"}, {"m0[t0] = s0", "0000 10 1 1"}, {"m0[s1] = 1", "0000 20 2 2"},
		{"m0[0] = (s1 / l0)", "0000 20 2 2"}, {"m0[0] = (s1 / 4)", "0000 20 0 0"}, {"m0[(1 / s0)] = s1", "0000 30 3 3"}, {"m0[m1[0]] = 1; m1[0] = s0", "0000 11 1 1"}, {"m0[m0[3]] = s0", "0000 10 1 1"},
		// what is asked
		{"if (1 / s0); t0 = 1; end", "1000 00 1 1"}, {"if (s0 / 3); t0 = 1; end", "1000 00 0 0"}, {"if m0[s2]; end", "0000 00 4 4"}, {"if (s1 % l0); end; t0 = 1", "2000 00 2 2"}, {"if (1 / l0); end; out s0", "0000 00 0 1"},
		// within an StIf, whatever is asked
		{"if s1; out (1 / 0); end", "0000 00 2 2"}, {"if s1; else; t0 = (1 / l0); end", "2000 00 2 2"}, {"if s1; if (1 / s0); t0 = 1; end; end", "3000 00 3 3"}, {"if s1; if (1 / l0); end; end", "0000 00 2 2"},
		{"if s0; m0[l0] = 1; end", "0000 10 1 1"}, {"if s0; m0[2] = 1; end", "0000 10 1 1"}, {"if s0; m0[1] = 1; end", "0000 10 0 0"}, {"if s0; t0 = m0[7]; end", "1000 00 1 1"}, {"if s0; t0 = m0[1]; end", "1000 00 0 0"},
		{"if s0; end; out (1 / 0)", "0000 00 0 0"}, {"if s0; t0 = 1; end; out (1 / 0)", "1000 00 0 0"}, {"if s0; if s1; end; out (1 / 0); end", "0000 00 1 1"}, {"if s0; if s1; out (1 / 0); end; end", "0000 00 3 3"},
		// no try catches a trap
		{"try; t0 = (1 / s2); catch 1; end", "4000 00 4 4"}, {"loop 0; out (1 / s2); end", "0000 00 4 4"}, {"try; throw 1; t0 = m0[s1]; catch 1; end", "2000 00 2 2"}, {"loop 3; loop 0; if s1; m1[5] = 1; end; end; end", "0000 02 2 2"},
	})
}

func TestWhatAThrowLetsEscape(t *testing.T) {
	checkFlowCases(t, []flowCase{
		{"throw 1", "0000 00 0 0"}, {"throw 1; out s1", "0000 00 0 2"}, {"t0 = s0; throw 2", "1000 00 0 0"}, {"if s0; end; throw 1", "0000 00 0 0"}, {"if s0; t0 = 1; end; throw 1", "1000 00 0 0"},
		{"if s0; throw 1; end", "0000 00 1 1"}, {"if s0; else; throw 1; end", "0000 00 1 1"}, {"if l0; throw 2; end", "0000 00 0 0"}, {"if s0; if s2; throw 1; end; end", "0000 00 5 5"}, {"if s0; if s2; end; throw 1; end", "0000 00 1 1"},
		{"if s0; throw 0; end; if s1; throw 0; end", "0000 00 3 3"}, {"if l0; if s1; throw 9; end; end", "0000 00 2 2"}, {"if s1; if l0; throw 9; end; end", "0000 00 2 2"}, {"if t0; throw 2; end; t0 = s1", "2000 00 2 2"},
		// caught or not
		{"try; throw 1; catch 1; end", "0000 00 0 0"}, {"try; if s0; throw 1; end; catch 1; end", "0000 00 1 1"}, {"try; if s0; throw 1; end; catch 1; t0 = 1; end; t1 = 1", "1100 00 1 1"}, {"try; if s0; throw 1; end; catch 2; end", "0000 00 1 1"},
		{"if s0; try; throw 1; catch 1; end; end", "0000 00 1 1"}, {"if s0; try; t0 = 1; catch 1; end; end", "1000 00 0 0"}, {"if s0; try; catch 1; throw 1; end; end", "0000 00 1 1"}, {"try; catch 1; if s2; throw 1; end; end", "0000 00 4 4"},
		{"try; try; if s1; throw 1; end; catch 1; end; catch 1; end", "0000 00 2 2"}, {"loop 4; if s1; throw 1; end; end", "0000 00 2 2"}, {"loop 0; if s1; throw 1; end; end", "0000 00 2 2"}, {"if s1; loop 0; throw 1; end; end", "0000 00 2 2"},
	})
}

// TestWhatEscapesGoesEverywhere: into each context, also ahead of it.
func TestWhatEscapesGoesEverywhere(t *testing.T) {
	escapes := []string{"if s0; throw 1; end", "if s0; else; throw 1; end", "t3 = (1 / s0)", "if (1 / s0); end", "try; if s0; throw 1; end; catch 1; end", "if s0; m0[2] = 1; end", "m0[s0] = 1", "out m1[s0]"}
	bodies := []string{"*; t0 = 1; m1[1] = 1; out s1", "t0 = 1; m1[1] = 1; *; out s1", "t0 = 1; out s1; m1[1] = 1; *", "if l0; *; t0 = 1; else; out s1; end; m1[1] = 1",
		"loop 2; t0 = 1; *; end; loop 0; out s1; end; m1[1] = 1", "try; m1[1] = 1; catch 1; t0 = 1; end; try; out s1; catch 2; *; end", "t0 = 1; m1[1] = 1; out s1; if l0; loop 1; *; end; end"}
	for _, escape := range escapes {
		t3 := strings.Count(escape, "t3")
		m0 := strings.Count(escape, "m0")
		for _, body := range bodies {
			checkFlowCases(t, []flowCase{
				{strings.Replace(body, "*", escape, 1), fmt.Sprintf("100%d %d1 1 3", t3, m0)},
				{strings.Replace(body, "*", "if s2; "+escape+"; end", 1), fmt.Sprintf("500%d %d5 5 7", 5*t3, 5*m0)},
				{strings.Replace("if s2; "+body+"; end", "*", escape, 1), fmt.Sprintf("500%d %d5 5 7", 5*t3, 5*m0)},
			})
		}
		// where there is no StOut, and where nothing else is set
		if !strings.HasPrefix(escape, "out") {
			checkFlowCases(t, []flowCase{{escape, fmt.Sprintf("000%d %d0 1 1", t3, m0)}})
		}
		checkFlowCases(t, []flowCase{{escape + "; t1 = 0", fmt.Sprintf("010%d %d0 1 1", t3, m0)}, {"m1[0] = 0; " + escape, fmt.Sprintf("000%d %d1 1 1", t3, m0)}})
	}
	checkFlowCases(t, []flowCase{
		// from one that escapes to another
		{"if s0; throw 1; end; m0[l0] = s1", "0000 30 3 3"}, {"m0[l0] = t0; if s0; throw 1; end; if t0; t1 = s2; end; t0 = s1", "3700 30 3 3"},
		{"if t0; throw 1; end; t0 = m1[t1]; t1 = s2; if s0; throw 1; end", "5500 00 5 5"}, {"throw 1; t0 = 1; if s1; t0 = (1 / 0); end; out l0", "2000 00 2 2"},
		// into what is set, not into what is read
		{"if s0; throw 1; end; t0 = t1", "1000 00 1 1"}, {"if s0; throw 1; end; out t1", "0000 00 1 1"}, {"if t2; end; if s0; throw 1; end; t0 = m0[0]", "1000 00 1 1"},
	})
}

// chain sets one after the other, each from the next one, so that nothing goes
// on but by one Stmt in each round.
func chain(p impl.Prog, links []func(at int64, from []impl.Term) []impl.Stmt) impl.Prog {
	first := int64(len(p.Lows) + len(p.Secrets))
	from := []impl.Term{variable(first - 1)}
	var body []impl.Stmt
	for at := range p.Temps {
		body = slices.Concat(links[int(at)%len(links)](first+at, from), body)
		from = []impl.Term{variable(first + at)}
	}
	for array := range p.Arrays {
		body = append([]impl.Stmt{put(int64(array), []impl.Term{num(0)}, from)}, body...)
		from = []impl.Term{num(0), cell(int64(array))}
	}
	p.Body = append([]impl.Stmt{told(from...)}, body...)
	return p
}

// chainHeads have no Body, but a Secret from which a chain may begin.
func chainHeads() []impl.Prog {
	return []impl.Prog{
		{Width: 3, Secrets: maxes(1), Temps: 6, Arrays: []int64{1, 6}}, {Width: 1, Lows: maxes(1), Secrets: maxes(1, 0), Temps: 6, Arrays: []int64{6, 1}},
		fullest(), {Width: 8, Secrets: maxes(3, 3, 3), Temps: 6, Arrays: []int64{1, 1}}, {Width: 2, Secrets: maxes(1), Temps: 0, Arrays: []int64{1}}, {Width: 2, Secrets: maxes(1)},
	}
}

// linkPlainly and linkWithin make a link of a chain.
func linkPlainly(at int64, from []impl.Term) []impl.Stmt { return []impl.Stmt{set(at, from)} }
func linkWithin(at int64, from []impl.Term) []impl.Stmt {
	return wrapped(numbered(impl.StLoop, 0), set(at, from))
}

// TestLabelsGoThroughLongChains: of all variables and all arrays, against the
// order of the Stmts.
func TestLabelsGoThroughLongChains(t *testing.T) {
	plainly, within := linkPlainly, linkWithin
	asking := func(at int64, from []impl.Term) []impl.Stmt { return wrapped(asked(from...), set(at, one())) }
	for _, p := range chainHeads() {
		for _, links := range [][]func(int64, []impl.Term) []impl.Stmt{{plainly}, {asking}, {within}, {asking, plainly}, {plainly, plainly, within, asking}} {
			q := chain(p, links)
			lows, last := len(p.Lows), int64(1)<<(len(p.Secrets)-1)
			want := impl.Flow{Vars: slices.Concat(make([]int64, lows), []int64{1, 2, 4}[:len(p.Secrets)], slices.Repeat([]int64{last}, int(p.Temps))), Arrays: slices.Repeat([]int64{last}, len(p.Arrays)), Leaks: last}
			checkFlow(t, q, want)
			if _, rounds := flowBy(q); rounds < int(p.Temps) {
				t.Errorf("only %d rounds of\n%s", rounds, writtenProg(q))
			}
			// the last link lets all escape
			from := q.Body[0].Exp
			q.Body[0] = told(joined(from, from, times(1, sign(impl.TmDiv)))...)
			want.Escape = last
			checkFlow(t, q, want)
			q.Body = append(wrapped(asked(from...), numbered(impl.StThrow, 1)), q.Body[1:]...)
			checkFlow(t, q, want)
		}
	}
}

// TestLabelsOfWhatMayNotBeSet: no Low and no Secret can be set anew.
func TestLabelsOfWhatMayNotBeSet(t *testing.T) {
	for n := range int64(4) {
		checkNoFlow(t, fmt.Sprintf("the variable %d is set", n), roomy(set(n, one())))
		checkNoFlow(t, fmt.Sprintf("the variable %d is set", n), roomy(told(variable(2)), set(n, []impl.Term{variable(3)})))
	}
	for n := int64(4); n < 6; n++ {
		p := roomy(set(n, []impl.Term{variable(3)}), set(n, one()))
		want := impl.Flow{Vars: []int64{0, 0, 1, 2, 0, 0}, Arrays: []int64{0, 0}}
		want.Vars[n] = 2
		checkFlow(t, p, want)
	}
	checkNoFlow(t, "the variable 6 is set", roomy(set(6, one())))
}

// tells has each Secret in an StOut, in an StIf with an StThrow, or not at all.
func tells(p impl.Prog, how string) impl.Prog {
	p.Body = []impl.Stmt{told(num(1))}
	for secret, letter := range how {
		e := []impl.Term{variable(int64(len(p.Lows) + secret))}
		switch letter {
		case 'o':
			p.Body = append(p.Body, told(e...))
		case 't':
			p.Body = append(wrapped(asked(e...), numbered(impl.StThrow, 1)), p.Body...)
		}
	}
	return p
}

// TestQuietOfEachSecret: with no inputs, and with as many as may be.
func TestQuietOfEachSecret(t *testing.T) {
	for lows := range 4 {
		for _, how := range strings.Split(",q,o,t,qq,qo,oq,oo,qt,tq,ot,qqq,oqq,qoq,qqo,tqq,qtq,qqt,ooq,oqo,qoo,ooo,tqo,oqt,ttt", ",") {
			p := tells(withInputs(slices.Repeat(maxes(1), lows), slices.Repeat(maxes(1), len(how))), how)
			for secret := range how {
				if got := impl.IsQuiet(p, int64(secret)); got != (how[secret] == 'q') {
					t.Errorf("IsQuiet %d where the Secrets are %s is %v", secret, how, got)
				}
			}
			checkNoSecretsQuiet(t, p, len(how))
			checkByLabels(t, p)
		}
	}
	for _, p := range []impl.Prog{{Width: 1}, {Width: 8, Lows: maxes(7, 7, 7)}, {Width: 1, Temps: 6}, {Width: 1, Arrays: []int64{1, 6}}, {Width: 1, Lows: maxes(1), Body: []impl.Stmt{told(variable(0), variable(0), sign(impl.TmDiv))}}} {
		want := impl.Flow{Vars: make([]int64, len(p.Lows)+int(p.Temps)), Arrays: make([]int64, len(p.Arrays))}
		checkFlow(t, p, want)
	}
	// a Secret with a Max of 0 has a label as any other
	p := tells(withInputs(nil, maxes(0, 0, 5)), "oqo")
	checkFlow(t, p, impl.Flow{Vars: []int64{1, 2, 4}, Leaks: 5})
	checkFlow(t, tells(fullest(), "qqq"), impl.Flow{Vars: []int64{0, 0, 0, 1, 2, 4, 0, 0, 0, 0, 0, 0}, Arrays: []int64{0, 0}})
	checkFlow(t, tells(fullest(), "toq"), impl.Flow{Vars: []int64{0, 0, 0, 1, 2, 4, 0, 0, 0, 0, 0, 0}, Arrays: []int64{0, 0}, Escape: 1, Leaks: 3})
}

// flowStmts make up short Bodies in which labels go on in many ways.
var flowStmts = []impl.Stmt{
	told(variable(4)), set(4, []impl.Term{variable(2)}), set(5, []impl.Term{variable(4), num(2), sign(impl.TmMod)}), put(0, []impl.Term{variable(5)}, one()), numbered(impl.StThrow, 1),
	asked(variable(3)), asked(variable(5)), plain(impl.StElse), plain(impl.StEnd), numbered(impl.StLoop, 2), plain(impl.StTry), numbered(impl.StCatch, 1),
}

func TestFlowOfAllShortBodies(t *testing.T) {
	count, leaks := 0, map[int64]int{}
	eachShortBody(flowStmts, nil, nil, 5, func(body []impl.Stmt) {
		f := checkByLabels(t, roomy(body...))
		count++
		leaks[f.Leaks]++
	})
	if count < 9000 || leaks[0] < 100 || leaks[1] < 100 || leaks[2] < 100 || leaks[3] < 100 {
		t.Errorf("%d bodies, Leaks %v: too few to tell", count, leaks)
	}
}

// TestLabelsInAnyOrder: a Body of StSets alone has the same labels in any
// order.
func TestLabelsInAnyOrder(t *testing.T) {
	source := rand.New(rand.NewSource(91))
	for range 300 {
		p := fullest()
		for range 2 + source.Intn(9) {
			p.Body = append(p.Body, set(6+source.Int63n(6), grownIn(source, p, 1+source.Intn(5))))
		}
		p.Body = append(p.Body, told(variable(6+source.Int63n(6))))
		want := checkByLabels(t, p)
		for range 4 {
			source.Shuffle(len(p.Body), func(i, j int) { p.Body[i], p.Body[j] = p.Body[j], p.Body[i] })
			checkFlow(t, p, want)
		}
	}
}

// calm is an expression like that, in which nothing may trap.
func calm(p impl.Prog, e []impl.Term) []impl.Term {
	var list []impl.Term
	for _, term := range e {
		switch {
		case term.Op == impl.TmDiv || term.Op == impl.TmMod:
			term = sign(impl.TmXor)
		case term.Op == impl.TmCell:
			term = sign(impl.TmNeg)
		case term.Op == impl.TmNum && term.N == 0 && len(p.Arrays) > 0:
			list = append(list, term)
			term = cell(int64(len(p.Arrays) - 1))
		}
		list = append(list, term)
	}
	return list
}

// grownFlow makes a right Prog with an input, in which often nothing escapes,
// or little does.
func grownFlow(source *rand.Rand) impl.Prog {
	for {
		p := lively(source, grownProg(source))
		kind := source.Intn(4)
		for i, s := range p.Body {
			if kind > 0 && len(s.Exp) > 0 {
				p.Body[i].Exp = calm(p, s.Exp)
			}
			if kind > 1 && s.Op == impl.StThrow {
				p.Body[i] = told(num(1))
			}
		}
		if impl.ProgOk(p) && len(p.Secrets) > 0 && len(p.Body) > 2 {
			return p
		}
	}
}

func TestFlowOfGrownPrograms(t *testing.T) {
	source := rand.New(rand.NewSource(92))
	var quiet, escaping, late int
	for range 4000 {
		checkByLabels(t, grownProg(source))
		p := grownFlow(source)
		f := checkByLabels(t, p)
		_, rounds := flowBy(p)
		quiet += int(oneWhere(f.Leaks == 0))
		escaping += int(oneWhere(f.Escape > 0 && f.Leaks > f.Escape))
		late += int(oneWhere(rounds > 1))
	}
	if quiet < 300 || escaping < 100 || late < 100 {
		t.Errorf("%d leak nothing, of %d something escapes, %d take more than one round: too few to tell", quiet, escaping, late)
	}
}

// quietOnes tells of each Secret whether it is quiet.
func quietOnes(p impl.Prog) []bool {
	var list []bool
	for secret := range p.Secrets {
		list = append(list, impl.IsQuiet(p, int64(secret)))
	}
	return list
}

// checkNothingTold: no Outcome hangs on a Secret that is quiet, nor on all of
// these together. It answers how many there are that could have mattered.
func checkNothingTold(t *testing.T, p impl.Prog, lows, secrets []int64) int {
	t.Helper()
	count := 0
	quiet := quietOnes(p)
	for secret, is := range quiet {
		most := impl.MostFor(p, int64(secret))
		if is && most != 1 {
			t.Errorf("the Secret %d is quiet, but %d Outcomes hang on it, of\n%s", secret, most, writtenProg(p))
		}
		count += int(oneWhere(is && p.Secrets[secret].Max > 0))
	}
	if got := impl.OutcomesOf(p, lows, secrets, quiet); len(got) != 1 {
		t.Errorf("%v are quiet, but %v hang on them, of\n%s", quiet, got, writtenProg(p))
	}
	return count
}

// isInBody tells whether the Secret is named at all.
func isInBody(p impl.Prog, secret int) bool {
	for _, s := range p.Body {
		if slices.Contains(slices.Concat(s.At, s.Exp), variable(int64(len(p.Lows)+secret))) {
			return true
		}
	}
	return false
}

// TestNothingTold is the promise, over many programs.
func TestNothingTold(t *testing.T) {
	source := rand.New(rand.NewSource(93))
	var quiet, named, open, matters int
	for range 1200 {
		p := grownFlow(source)
		quiet += checkNothingTold(t, p, grownValues(source, p.Lows), grownValues(source, p.Secrets))
		for secret, is := range quietOnes(p) {
			named += int(oneWhere(is && p.Secrets[secret].Max > 0 && isInBody(p, secret)))
			open += int(oneWhere(!is))
			matters += int(oneWhere(impl.MostFor(p, int64(secret)) > 1))
		}
	}
	if quiet < 300 || named < 100 || open < 300 || matters < 200 {
		t.Errorf("%d are quiet, %d of them named, %d are not, %d matter: too few to tell", quiet, named, open, matters)
	}
}

// TestNothingToldByShortBodies: of all of them, with l0 and s1 that matter.
func TestNothingToldByShortBodies(t *testing.T) {
	count := 0
	eachShortBody(flowStmts, nil, nil, 4, func(body []impl.Stmt) {
		p := roomy(body...)
		p.Lows, p.Secrets = maxes(1, 0), maxes(1, 1)
		count += checkNothingTold(t, p, []int64{1, 0}, []int64{1, 0})
	})
	if count < 1000 {
		t.Errorf("%d are quiet: too few to tell", count)
	}
}

// TestWhatMayNotTrapHasNone, in many Envs; and what may, often has one.
func TestWhatMayNotTrapHasNone(t *testing.T) {
	source := rand.New(rand.NewSource(94))
	calmOnes, trapped := 0, 0
	for range 1000 {
		p := grownProg(source)
		for range 10 {
			e := grownIn(source, p, 1+source.Intn(9))
			may := impl.MayTrap(p, e)
			if may != mayTrapBy(p, e) {
				t.Errorf("MayTrap of %v is %v, of\n%s", e, may, writtenProg(p))
			}
			for range 8 {
				_, trap := impl.ValueIn(p, grownEnv(source, p), e)
				if !may && trap != impl.TrNone {
					t.Errorf("MayTrap of %v is false, but there is the trap %d, of\n%s", e, trap, writtenProg(p))
				}
				trapped += int(oneWhere(trap != impl.TrNone))
			}
			calmOnes += int(oneWhere(!may && len(e) > 3))
		}
	}
	if calmOnes < 1000 || trapped < 1000 {
		t.Errorf("%d may not trap, %d did: too few to tell", calmOnes, trapped)
	}
}

// TestNoTrapWhereNoStmtMay: of all inputs.
func TestNoTrapWhereNoStmtMay(t *testing.T) {
	source := rand.New(rand.NewSource(95))
	calmOnes, trapped := 0, 0
	for range 1500 {
		p := grownFlow(source)
		may := false
		for _, s := range p.Body {
			outside := s.Op == impl.StPut && !isOneBelow(s.At, p.Arrays[s.N])
			may = may || outside || impl.MayTrap(p, s.At) || impl.MayTrap(p, s.Exp)
		}
		traps := slices.ContainsFunc(impl.AllOutcomes(p), func(o impl.Outcome) bool { return o.End == impl.EnTrap })
		if traps && !may {
			t.Errorf("no Stmt may trap, but one does, of\n%s", writtenProg(p))
		}
		calmOnes += int(oneWhere(!may))
		trapped += int(oneWhere(traps))
	}
	if calmOnes < 300 || trapped < 100 {
		t.Errorf("%d may not trap, %d did: too few to tell", calmOnes, trapped)
	}
}

// checkNoFlow: nothing is told of a Prog that is not right.
func checkNoFlow(t *testing.T, name string, p impl.Prog) {
	t.Helper()
	if impl.ProgOk(p) {
		t.Errorf("%s is right", name)
	}
	if f := impl.FlowOf(p); len(f.Vars) != 0 || len(f.Arrays) != 0 || f.Escape != 0 || f.Leaks != 0 {
		t.Errorf("%s: FlowOf is %v; want the zero Flow", name, f)
	}
	checkNoSecretsQuiet(t, p, 0)
	for _, e := range [][]impl.Term{{num(1), num(0), sign(impl.TmDiv)}, {num(0), variable(0), sign(impl.TmMod)}, {num(1), variable(0), cell(0), sign(impl.TmAdd)}, {num(7), cell(0)}, {num(7), cell(1)}, one(), nil} {
		if impl.MayTrap(p, e) {
			t.Errorf("%s: MayTrap of %v is true", name, e)
		}
	}
}

// eachWrongProg makes Progs that are not right: with one fault or two, where
// more is done behind it, and with sizes that are far off.
func eachWrongProg(call func(name string, p impl.Prog)) {
	for _, f := range allFaults() {
		call(f.name, broken(f))
		more := broken(f)
		more.Body = append(more.Body, set(2, one()), told(variable(1)), told(num(0), cell(0)), told(variable(1), cell(0)))
		call(f.name, more)
		for _, g := range allFaults() {
			call(f.name+" and "+g.name, broken(f, g))
		}
	}
	call("the zero Prog", impl.Prog{})
	for _, n := range append([]int64{-8, -1, 0, 9, 62, 63, 64, 65}, far...) {
		call(fmt.Sprintf("Width %d", n), impl.Prog{Width: n, Secrets: maxes(1), Arrays: []int64{2}, Body: outs(1)})
	}
	for _, n := range append([]int64{-1, 7, 8}, far...) {
		call(fmt.Sprintf("%d Temps", n), impl.Prog{Width: 2, Secrets: maxes(1), Temps: n, Body: outs(1)})
		call(fmt.Sprintf("an array of %d cells", n), impl.Prog{Width: 2, Secrets: maxes(1), Arrays: []int64{n}, Body: outs(1)})
	}
	call("many Secrets", withInputs(nil, make([]impl.Input, 5000)))
	call("an StEnd too few", roomy(asked(variable(2))))
	call("an StPut with no At", roomy(put(0, nil, []impl.Term{variable(2)})))
}

func TestFlowOfProgramsThatAreNotRight(t *testing.T) {
	eachWrongProg(func(name string, p impl.Prog) { checkNoFlow(t, name, p) })
	checkFlow(t, broken(), impl.Flow{Vars: []int64{0, 1, 0}, Arrays: []int64{0}})
	checkTraps(t, broken(), []impl.Term{num(7), cell(0)}, true)
}

// askAllOfFlow spoils each answer and asks again.
func askAllOfFlow(t *testing.T, p impl.Prog, e []impl.Term) {
	t.Helper()
	first, may, quiet := impl.FlowOf(p), impl.MayTrap(p, e), impl.IsQuiet(p, 0)
	kept := clonedFlow(first)
	checkApart(t, "FlowOf", spoiledMark, first.Vars, first.Arrays)
	spoil(first.Vars, spoiledMark)
	spoil(first.Arrays, spoiledMark)
	if again := impl.FlowOf(p); !sameFlows(again, kept) {
		t.Errorf("FlowOf is %v, then %v: it is kept from call to call, or a part of an argument", kept, again)
	}
	if impl.MayTrap(p, e) != may || impl.IsQuiet(p, 0) != quiet {
		t.Errorf("MayTrap or IsQuiet tells something else when asked again")
	}
}

func checkFlowStays(t *testing.T, name string, p impl.Prog, e []impl.Term) {
	t.Helper()
	a := termsArgument(e)
	checkStays(t, name, p, func(given impl.Prog) { askAllOfFlow(t, given, a.list) })
	if !a.untouched() {
		t.Errorf("%s: %d Terms %v: the argument was written into", name, len(e), brief(e))
	}
}

func TestFlowAnswersAreNewAndArgumentsStay(t *testing.T) {
	source := rand.New(rand.NewSource(96))
	for range 300 {
		p := grownFlow(source)
		checkFlowStays(t, "a right Prog", p, grownIn(source, p, 1+source.Intn(50)))
		p = grownProg(source)
		checkFlowStays(t, "a right Prog", p, grownWide(source, p, 60))
	}
	for _, f := range allFaults() {
		checkFlowStays(t, f.name, broken(f), []impl.Term{num(7), cell(0)})
	}
	for _, e := range slices.Concat(trapsThatMayNotStand(), longestOnes()) {
		checkFlowStays(t, "roomy", roomy(), e)
	}
	checkFlowStays(t, "as many variables as cells", impl.Prog{Width: 1, Temps: 2, Arrays: []int64{1, 1}}, one())
}

// TestFlowTellsTheSameAgain, whatever else is asked in between.
func TestFlowTellsTheSameAgain(t *testing.T) {
	p, q := ofText(t, flowHead+"; out t0; t0 = t1; t1 = s1; if s2; throw 1; end"), ofText(t, "width 2; secret 1 0; temps 0; out 1")
	for range 50 {
		checkFlow(t, p, impl.Flow{Vars: []int64{0, 1, 2, 4, 6, 6, 0, 0}, Arrays: []int64{0, 0}, Escape: 4, Leaks: 6})
		checkFlow(t, q, impl.Flow{Vars: []int64{1}})
		checkNoFlow(t, "the zero Prog", impl.Prog{})
	}
}
