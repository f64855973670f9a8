package tests

import (
	"fmt"
	"math/rand"
	"slices"
	"strconv"
	"strings"
	"testing"

	"loop.example/g00697/impl"
)

// opened is a block that the machine is in. Of a loop, rounds are those that
// are left; a try guards while it is in its first body.
type opened struct {
	at     int64
	parts  block
	rounds int64
	guards bool
}

// machine runs a program from place to place, with a stack of the blocks it is
// in, and keeps nothing in common with the program.
type machine struct {
	p      impl.Prog
	v      impl.Env
	o      impl.Outcome
	place  int64
	open   []opened
	over   bool
	steps  int64
	caught int64
}

func (m *machine) stop(end, code int64) {
	m.o.End, m.o.Code, m.over = end, code, true
}

// value is false where there is a trap, and the run is over.
func (m *machine) value(e []impl.Term) (int64, bool) {
	n, traps := reckoned(m.p, m.v, e)
	if len(traps) > 0 {
		m.stop(impl.EnTrap, traps[0])
	}
	return n, len(traps) == 0
}

func (m *machine) put(s impl.Stmt) {
	at, is := m.value(s.At)
	if !is {
		return
	}
	n, is := m.value(s.Exp)
	switch {
	case !is:
	case at >= m.p.Arrays[s.N]:
		m.stop(impl.EnTrap, impl.TrCell)
	default:
		m.v.Cells[s.N][at] = n
	}
}

// throw leaves block by block, up to one that guards against it.
func (m *machine) throw(code int64) {
	for len(m.open) > 0 {
		last := len(m.open) - 1
		parts := m.open[last].parts
		if m.open[last].guards && m.p.Body[parts.second].N == code {
			m.open[last].guards = false
			m.place = parts.second + 1
			m.caught++
			return
		}
		m.open = m.open[:last]
	}
	m.stop(impl.EnThrow, code)
}

// enter goes into the block at this place. A loop is entered at its StEnd,
// where it is asked for rounds.
func (m *machine) enter(s impl.Stmt) {
	parts, _ := readBlock(m.p.Body, m.place)
	next := opened{at: m.place, parts: parts, guards: s.Op == impl.StTry}
	m.place++
	switch s.Op {
	case impl.StLoop:
		next.rounds = s.N
		m.place = parts.end
	case impl.StIf:
		n, _ := m.value(s.Exp)
		if n == 0 && parts.second < 0 {
			m.place = parts.end
		} else if n == 0 {
			m.place = parts.second + 1
		}
	}
	m.open = append(m.open, next)
}

func (m *machine) leave() {
	last := len(m.open) - 1
	if m.open[last].rounds > 0 {
		m.open[last].rounds--
		m.steps++
		m.place = m.open[last].at + 1
		return
	}
	m.open = m.open[:last]
	m.place++
}

func (m *machine) goOn() {
	s := m.p.Body[m.place]
	switch s.Op {
	case impl.StElse, impl.StCatch:
		m.place = m.open[len(m.open)-1].parts.end
		return
	case impl.StEnd:
		m.leave()
		return
	}
	m.steps++
	switch s.Op {
	case impl.StIf, impl.StLoop, impl.StTry:
		m.enter(s)
		return
	case impl.StThrow:
		m.throw(s.N)
		return
	case impl.StPut:
		m.put(s)
	case impl.StSet:
		if n, is := m.value(s.Exp); is {
			m.v.Vars[s.N] = n
		}
	case impl.StOut:
		if n, is := m.value(s.Exp); is {
			m.o.Values = append(m.o.Values, n)
		}
	}
	m.place++
}

// byMachine runs a right Prog.
func byMachine(p impl.Prog, lows, secrets []int64) machine {
	m := machine{p: p, v: impl.Env{Vars: slices.Concat(lows, secrets, make([]int64, p.Temps))}}
	for _, size := range p.Arrays {
		m.v.Cells = append(m.v.Cells, make([]int64, size))
	}
	for !m.over && m.place < int64(len(p.Body)) {
		m.goOn()
	}
	return m
}

func sameOutcomes(a, b impl.Outcome) bool {
	return slices.Equal(a.Values, b.Values) && a.End == b.End && a.Code == b.Code
}

func sameEnvs(a, b impl.Env) bool {
	return slices.Equal(a.Vars, b.Vars) && slices.EqualFunc(a.Cells, b.Cells, slices.Equal)
}

// checkRun holds the run of a right Prog, and a second one, against the
// machine, and answers that one.
func checkRun(t *testing.T, p impl.Prog, lows, secrets []int64) machine {
	t.Helper()
	m := byMachine(p, lows, secrets)
	o, is := impl.RunOf(p, lows, secrets)
	if !is || !sameOutcomes(o, m.o) {
		t.Errorf("RunOf %v and %v = %v, %v; want %v, of\n%s", lows, secrets, o, is, m.o, writtenProg(p))
	}
	v, is := impl.AfterOf(p, lows, secrets)
	if !is || !sameEnvs(v, m.v) || !impl.EnvOk(p, v) {
		t.Errorf("AfterOf %v and %v = %v, %v; want %v, of\n%s", lows, secrets, v, is, m.v, writtenProg(p))
	}
	if again, _ := impl.RunOf(p, lows, secrets); !impl.LikeOutcomes(o, again) {
		t.Errorf("RunOf %v and %v is %v, then %v, of\n%s", lows, secrets, o, again, writtenProg(p))
	}
	if most := impl.StepsOf(p); m.steps > most {
		t.Errorf("%d steps, more than %d, of\n%s", m.steps, most, writtenProg(p))
	}
	return m
}

func digits(list []int64) string {
	text := ""
	for _, n := range list {
		text += strconv.FormatInt(n, 10)
	}
	return text
}

// seen writes an Outcome of a Width of at most 3: a digit for each value.
func seen(o impl.Outcome) string {
	end := "?"
	switch {
	case o.End == impl.EnDone && o.Code == 0:
		end = "done"
	case o.End == impl.EnThrow:
		end = fmt.Sprintf("throw %d", o.Code)
	case o.End == impl.EnTrap && o.Code == impl.TrDiv:
		end = "div"
	case o.End == impl.EnTrap && o.Code == impl.TrCell:
		end = "cell"
	}
	return strings.TrimSpace(digits(o.Values) + " " + end)
}

// left writes what Temps and cells of roomy are.
func left(v impl.Env) string {
	return digits(v.Vars[4:]) + " " + digits(v.Cells[0]) + " " + digits(v.Cells[1])
}

// roomyBody is roomy with a Body of that text, with ; for the ends of lines.
func roomyBody(t *testing.T, body string) impl.Prog {
	t.Helper()
	if body != "" {
		body = strings.ReplaceAll(body, "; ", "\n") + "\n"
	}
	p, is := readByLines(headOfRoomy + body)
	if !is {
		t.Fatalf("%q is no Body", body)
	}
	return p
}

const nothingLeft = "00 0 000000"

// runCase is a Body of roomy, where l0 is 6, l1 is 0, s0 is 1 and s1 is 5, what
// is seen of it, and what is left when it ends, if anything.
type runCase struct{ body, seen, left string }

func checkRunCases(t *testing.T, cases []runCase) {
	t.Helper()
	for _, c := range cases {
		if c.left == "" {
			c.left = nothingLeft
		}
		p := roomyBody(t, c.body)
		lows, secrets := []int64{6, 0}, []int64{1, 5}
		if o, is := impl.RunOf(p, lows, secrets); !is || seen(o) != c.seen {
			t.Errorf("%s: RunOf is %v, %v; want %s", c.body, o, is, c.seen)
		}
		v, is := impl.AfterOf(p, lows, secrets)
		if !is || left(v) != c.left || digits(v.Vars[:4]) != "6015" {
			t.Errorf("%s: AfterOf is %v, %v; want %s", c.body, v, is, c.left)
		}
		checkRun(t, p, lows, secrets)
	}
}

func TestOrdinaryRuns(t *testing.T) {
	checkRunCases(t, []runCase{
		{"", "done", ""},
		{"out 7", "7 done", ""},
		{"out l0; out l1; out s0; out s1; out t0; out t1; out m0[0]; out m1[0]; out m1[5]", "601500000 done", ""},
		{"out 1; out 2; out 1; out 2", "1212 done", ""},
		{"t0 = 3; t1 = (t0 + l0); out t1; out t0", "13 done", "31 0 000000"},
		{"t0 = 3; t0 = 4; out t0; t0 = t0; out t0", "44 done", "40 0 000000"},
		{"t0 = (t0 + 1); t0 = (t0 + t0); t1 = t0; t0 = 0; out t1", "2 done", "02 0 000000"},
		{"t0 = 3; t1 = 5; t0 = (t0 ^ t1); t1 = (t0 ^ t1); t0 = (t0 ^ t1); out t0; out t1", "53 done", "53 0 000000"},
		{"t0 = s0; out t0; t0 = -t0; out t0; out s0", "171 done", "70 0 000000"},
		{"m1[s1] = 4; m0[0] = m1[5]; out m0[0]; m1[0] = (m0[0] + 1); out m1[0]", "45 done", "00 4 500004"},
		{"m1[0] = 1; m1[m1[0]] = 2; m1[m1[m1[0]]] = 3; out m1[2]", "3 done", "00 0 123000"},
		{"m1[2] = 6; m1[2] = (m1[2] + m1[2]); out m1[2]", "4 done", "00 0 004000"},
		{"m1[(l0 + 3)] = 7; out m1[1]", "7 done", "00 0 070000"},
		{"loop 4; t0 = (t0 + 1); t1 = (t1 + t0); m1[t0] = t1; out t1; end", "1362 done", "42 0 013620"},
		{"if (s0 == 1); out 5; else; out 6; end; out (l0 / s1)", "51 done", ""},
		{"throw 4", "throw 4", ""},
		{"out 3; throw 0; out 4; throw 1", "3 throw 0", ""},
		{"out (s1 / l1)", "div", ""},
		{"out (s1 % l1)", "div", ""},
		{"out m1[l0]", "cell", ""},
		{"t0 = 1; out 1; out m0[t0]; out 2; t0 = 2", "1 cell", "10 0 000000"},
	})
}

func TestIfs(t *testing.T) {
	for n, taken := range map[string]bool{"0": false, "1": true, "2": true, "4": true, "7": true, "l1": false, "s0": true, "s1": true, "(7 + 1)": false, "(l0 < s1)": false, "(s1 < l0)": true} {
		alone, withElse := "2 done", "12 done"
		if taken {
			alone, withElse = "02 done", "02 done"
		}
		checkRunCases(t, []runCase{
			{"if " + n + "; out 0; end; out 2", alone, ""},
			{"if " + n + "; out 0; else; out 1; end; out 2", withElse, ""},
		})
	}
	checkRunCases(t, []runCase{
		// it is asked but once
		{"t0 = 1; if t0; t0 = 0; out 1; else; out 2; end; out t0", "10 done", ""},
		{"if t0; out 1; else; t0 = 1; out 2; end; out t0", "21 done", "10 0 000000"},
		{"t0 = 1; if t0; t0 = 0; out 1; end; if t0; out 2; end; out 3", "13 done", ""},
		// one within the other
		{"if 1; if 0; out 1; else; out 2; end; else; out 3; end; out 4", "24 done", ""},
		{"if 0; if 1; out 1; else; out 2; end; else; if 0; out 3; else; out 4; end; end; out 5", "45 done", ""},
		{"if 0; if 1; out 1; end; end; out 5", "5 done", ""},
		{"if 1; out 1; if 1; out 2; if 1; out 3; end; out 4; end; out 5; end; out 6", "123456 done", ""},
		{"if 1; else; if 1; out 1; end; end; out 2", "2 done", ""},
		// what is not taken does nothing
		{"if 0; t0 = 1; m1[0] = 2; throw 3; end; out 4", "4 done", ""},
		{"if 1; out 4; else; t0 = 1; m1[0] = 2; throw 3; end", "4 done", ""},
		{"if 0; out (1 / 0); end; if 1; out 1; else; m0[7] = (1 / 0); end", "1 done", ""},
		{"if 0; if (1 / 0); end; end; out 1", "1 done", ""},
		// both do what they do
		{"if 3; t0 = 1; m1[0] = 2; else; t1 = 3; m1[1] = 4; end", "done", "10 0 200000"},
		{"if 0; t0 = 1; m1[0] = 2; else; t1 = 3; m1[1] = 4; end", "done", "03 0 040000"},
		{"if 1; throw 1; else; throw 2; end; out 1", "throw 1", ""},
		{"if 0; throw 1; else; throw 2; end; out 1", "throw 2", ""},
	})
}

func TestLoops(t *testing.T) {
	checkRunCases(t, []runCase{
		{"loop 0; out 1; end; out 2", "2 done", ""},
		{"loop 1; out 1; end; out 2", "12 done", ""},
		{"loop 2; out 1; end; out 2", "112 done", ""},
		{"loop 3; out 1; end; out 2", "1112 done", ""},
		{"loop 4; out 1; end; out 2", "11112 done", ""},
		{"loop 4; t0 = (t0 + 1); end", "done", "40 0 000000"},
		{"loop 0; t0 = 1; m0[0] = 1; throw 5; end; out (2 - 1)", "1 done", ""},
		{"loop 1; t0 = 1; m0[0] = 1; end", "done", "10 1 000000"},
		// one within the other
		{"loop 2; out 1; loop 3; out 2; end; out 3; end; out 4", "12223122234 done", ""},
		{"loop 4; loop 4; t0 = (t0 + 1); end; t1 = (t1 + 1); end; out t0; out t1", "04 done", "04 0 000000"},
		{"loop 3; loop 3; t0 = (t0 + 1); end; t1 = (t1 + 1); end; out t0; out t1", "13 done", "13 0 000000"},
		{"loop 3; loop 0; out 1; end; out 2; end", "222 done", ""},
		{"loop 0; loop 4; out 1; end; end; out 3", "3 done", ""},
		{"loop 1; loop 1; loop 1; out 1; end; end; end; out 2", "12 done", ""},
		{"loop 4; loop 1; out t0; end; loop 1; t0 = (t0 + 1); end; end", "0123 done", "40 0 000000"},
		{"loop 4; loop 4; loop 4; t0 = (t0 + 1); end; t1 = (t1 + 3); end; end; out t0; out t1", "00 done", ""},
		// side by side
		{"loop 2; out 1; end; loop 3; out 2; end", "11222 done", ""},
		// thrown in the middle
		{"loop 4; throw 0; end; out 1", "throw 0", ""},
		{"loop 4; out 1; throw 9; out 2; end; out 3", "1 throw 9", ""},
		{"loop 4; out t0; t0 = (t0 + 1); if (t0 == 2); throw 3; end; out 7; end; out 6", "071 throw 3", "20 0 000000"},
		{"loop 3; loop 3; t0 = (t0 + 1); if (t0 == 5); throw 1; end; out t0; end; out 7; end; out 6", "12374 throw 1", "50 0 000000"},
		{"loop 4; t0 = (t0 + 1); out (6 / (3 - t0)); end", "36 div", "30 0 000000"},
		{"loop 4; m1[(t0 * 3)] = 1; t0 = (t0 + 1); end", "cell", "20 0 100100"},
	})
}

func TestEmptyBodies(t *testing.T) {
	checkRunCases(t, []runCase{
		{"if 1; end; out 1", "1 done", ""},
		{"if 0; end; out 1", "1 done", ""},
		{"if 1; else; end; out 1", "1 done", ""},
		{"if 0; else; end; out 1", "1 done", ""},
		{"if 1; else; out 2; end; out 1", "1 done", ""},
		{"if 0; else; out 2; end; out 1", "21 done", ""},
		{"if 1; out 2; else; end; out 1", "21 done", ""},
		{"if 0; out 2; else; end; out 1", "1 done", ""},
		{"if (1 / 0); end; out 1", "div", ""},
		{"if m1[6]; else; end; out 1", "cell", ""},
		{"loop 0; end; out 1", "1 done", ""},
		{"loop 1; end; out 1", "1 done", ""},
		{"loop 4; end; out 1", "1 done", ""},
		{"loop 4; loop 4; end; end; out 1", "1 done", ""},
		{"try; catch 0; end; out 1", "1 done", ""},
		{"try; catch 1; out 2; end; out 1", "1 done", ""},
		{"try; throw 1; catch 1; end; out 1", "1 done", ""},
		{"try; out 2; catch 1; end; out 1", "21 done", ""},
		{"try; throw 2; catch 1; end; out 1", "throw 2", ""},
		{"try; try; catch 1; end; catch 1; try; catch 1; end; end; out 1", "1 done", ""},
	})
}

func TestTries(t *testing.T) {
	checkRunCases(t, []runCase{
		// nothing is thrown
		{"try; out 1; catch 1; out 2; end; out 3", "13 done", ""},
		{"try; t0 = 1; catch 0; t0 = 2; end; out t0", "1 done", "10 0 000000"},
		// what it catches
		{"try; out 1; throw 1; out 2; catch 1; out 3; end; out 4", "134 done", ""},
		{"try; throw 0; catch 0; out 3; end; out 4", "34 done", ""},
		{"try; throw 9; catch 9; out 3; end; out 4", "34 done", ""},
		// another number
		{"try; out 1; throw 2; out 2; catch 1; out 3; end; out 4", "1 throw 2", ""},
		{"try; throw 0; catch 1; out 3; end; out 4", "throw 0", ""},
		{"try; throw 1; catch 0; out 3; end; out 4", "throw 1", ""},
		{"try; throw 9; catch 8; out 3; end; out 4", "throw 9", ""},
		// behind the StCatch
		{"try; throw 1; catch 1; out 1; throw 1; out 2; end; out 3", "1 throw 1", ""},
		{"try; throw 1; catch 1; throw 2; end; out 3", "throw 2", ""},
		{"try; out 1; catch 1; throw 1; end; out 3", "13 done", ""},
		// behind the StEnd, and ahead
		{"try; out 1; catch 1; out 2; end; throw 1; out 3", "1 throw 1", ""},
		{"try; throw 1; catch 1; out 2; end; throw 1; out 3", "2 throw 1", ""},
		{"throw 1; try; out 1; catch 1; out 2; end", "throw 1", ""},
		{"try; throw 1; catch 1; out 2; end; try; throw 1; catch 1; out 3; end; out 4", "234 done", ""},
		{"try; throw 1; catch 1; out 2; end; try; throw 2; catch 1; out 3; end; out 4", "2 throw 2", ""},
		// within an StIf
		{"try; if s0; throw 1; end; out 2; catch 1; out 3; end", "3 done", ""},
		{"try; if l1; throw 1; else; throw 2; end; out 2; catch 2; out 3; end", "3 done", ""},
		{"try; if l1; throw 1; end; out 2; catch 1; out 3; end", "2 done", ""},
		{"if 1; try; throw 1; catch 1; out 1; end; out 2; else; out 3; end; out 4", "124 done", ""},
		{"if 0; else; try; throw 1; catch 1; out 1; end; out 2; end; out 4", "124 done", ""},
	})
}

func TestTriesWithinTries(t *testing.T) {
	checkRunCases(t, []runCase{
		// in the body: the inner one, the outer one, both in turn, none
		{"try; try; throw 1; out 1; catch 1; out 2; end; out 3; catch 2; out 4; end; out 5", "235 done", ""},
		{"try; try; throw 2; out 1; catch 1; out 2; end; out 3; catch 2; out 4; end; out 5", "45 done", ""},
		{"try; try; throw 3; out 1; catch 1; out 2; end; out 3; catch 2; out 4; end; out 5", "throw 3", ""},
		{"try; try; throw 1; catch 1; out 2; end; out 3; catch 1; out 4; end; out 5", "235 done", ""},
		{"try; try; throw 1; catch 1; out 2; throw 1; end; out 3; catch 1; out 4; end; out 5", "245 done", ""},
		{"try; try; throw 1; catch 1; out 2; throw 2; end; out 3; catch 2; out 4; end; out 5", "245 done", ""},
		{"try; try; throw 1; catch 1; out 2; throw 3; end; out 3; catch 2; out 4; end; out 5", "2 throw 3", ""},
		{"try; try; throw 1; catch 1; out 2; end; throw 1; catch 1; out 4; end; out 5", "245 done", ""},
		{"try; try; out 1; catch 1; out 2; end; throw 2; catch 2; out 4; end; out 5", "145 done", ""},
		{"try; throw 1; try; out 1; catch 1; out 2; end; catch 1; out 4; end; out 5", "45 done", ""},
		{"try; throw 1; try; out 1; catch 1; out 2; end; catch 2; out 4; end; out 5", "throw 1", ""},
		// behind the StCatch
		{"try; throw 1; catch 1; try; throw 1; catch 1; out 1; end; out 2; end; out 3", "123 done", ""},
		{"try; throw 1; catch 1; try; throw 2; catch 2; out 1; end; out 2; end; out 3", "123 done", ""},
		{"try; throw 1; catch 1; try; throw 1; catch 2; out 1; end; out 2; end; out 3", "throw 1", ""},
		{"try; throw 1; catch 1; try; throw 2; catch 1; out 1; end; out 2; end; out 3", "throw 2", ""},
		{"try; throw 1; catch 1; try; throw 1; catch 1; throw 1; end; out 2; end; out 3", "throw 1", ""},
		{"try; out 0; catch 1; try; throw 2; catch 1; out 1; end; out 2; end; out 3", "03 done", ""},
		// three of them
		{"try; try; try; throw 3; catch 1; out 1; end; catch 2; out 2; end; catch 3; out 3; end; out 4", "34 done", ""},
		{"try; try; try; throw 2; catch 1; out 1; end; catch 2; out 2; end; catch 3; out 3; end; out 4", "24 done", ""},
		{"try; try; try; throw 1; catch 1; out 1; end; catch 2; out 2; end; catch 3; out 3; end; out 4", "14 done", ""},
		{"try; try; try; throw 0; catch 1; out 1; end; catch 2; out 2; end; catch 3; out 3; end; out 4", "throw 0", ""},
		{"try; try; try; throw 1; catch 1; throw 2; end; catch 2; throw 3; end; catch 3; throw 4; end; out 4", "throw 4", ""},
		{"try; try; try; throw 1; catch 1; throw 1; end; catch 1; out 2; throw 1; end; catch 1; out 3; end; out 4", "234 done", ""},
		{"try; try; try; throw 1; catch 2; out 1; end; catch 2; out 2; end; catch 1; try; throw 2; catch 2; out 3; end; end; out 4", "34 done", ""},
	})
}

func TestTriesAndLoops(t *testing.T) {
	checkRunCases(t, []runCase{
		// a try within a loop
		{"loop 3; try; out 1; throw 1; catch 1; out 2; end; out 3; end; out 4", "1231231234 done", ""},
		{"loop 3; try; t0 = (t0 + 1); if (t0 == 2); throw 1; end; out t0; catch 1; out 7; end; end; out 6", "1736 done", "30 0 000000"},
		{"loop 3; try; t0 = (t0 + 1); if (t0 == 2); throw 2; end; out t0; catch 1; out 7; end; end; out 6", "1 throw 2", "20 0 000000"},
		{"loop 4; try; throw 1; catch 1; t0 = (t0 + 1); if (t0 == 3); throw 1; end; end; out t0; end", "12 throw 1", "30 0 000000"},
		{"loop 0; try; throw 1; catch 2; out 7; end; end; out 6", "6 done", ""},
		{"loop 4; try; loop 4; throw 1; end; catch 1; out 1; end; end", "1111 done", ""},
		// a loop within a try
		{"try; loop 4; out 1; throw 1; end; catch 1; out 2; end; out 3", "123 done", ""},
		{"try; loop 4; out t0; t0 = (t0 + 1); if (t0 == 3); throw 1; end; end; out 7; catch 1; out 6; end; out 5", "01265 done", "30 0 000000"},
		{"try; loop 4; out t0; t0 = (t0 + 1); if (t0 == 5); throw 1; end; end; out 7; catch 1; out 6; end; out 5", "012375 done", "40 0 000000"},
		{"try; loop 2; loop 2; t0 = (t0 + 1); out t0; if (t0 == 3); throw 1; end; end; end; catch 1; out 7; end; out 6", "12376 done", "30 0 000000"},
		{"try; loop 4; throw 2; end; catch 1; out 2; end; out 3", "throw 2", ""},
		{"try; throw 1; catch 1; loop 4; out 1; end; end; out 3", "11113 done", ""},
		{"try; throw 1; catch 1; loop 4; out 1; throw 1; end; end; out 3", "1 throw 1", ""},
		{"loop 2; try; loop 2; t0 = (t0 + 1); if (t0 == 1); throw 1; end; out t0; end; catch 1; out 7; end; end", "723 done", "30 0 000000"},
	})
}

// TestWhatIsLeftOfATry: nothing is taken back of what was done ahead.
func TestWhatIsLeftOfATry(t *testing.T) {
	checkRunCases(t, []runCase{
		{"try; t0 = 3; m1[2] = 4; out 5; throw 1; t0 = 6; m1[2] = 7; out 6; catch 1; end; out t0; out m1[2]", "534 done", "30 0 004000"},
		{"t0 = 1; m0[0] = 1; try; t0 = 2; m0[0] = 2; throw 1; catch 1; out t0; out m0[0]; end", "22 done", "20 2 000000"},
		{"try; t0 = 2; throw 1; catch 1; t1 = t0; t0 = 5; end; out t0; out t1", "52 done", "52 0 000000"},
		{"try; t0 = 2; out t0; throw 1; catch 2; t0 = 5; end; out t0", "2 throw 1", "20 0 000000"},
		{"try; try; t0 = 2; m0[0] = 3; throw 2; catch 1; t0 = 6; end; t0 = 7; catch 2; t1 = t0; m1[5] = m0[0]; end", "done", "22 3 000003"},
		{"loop 4; try; t0 = (t0 + 1); m1[t0] = t0; if (t0 % 2); throw 1; end; t1 = (t1 + t0); catch 1; t1 = (t1 + 1); end; out t1; end", "1340 done", "40 0 012340"},
		{"out 1; try; out 2; try; out 3; throw 1; catch 2; out 4; end; out 5; catch 1; out 6; throw 7; end", "1236 throw 7", ""},
	})
}

// trapsOf are expressions of each trap, in roomy.
var trapsOf = map[string][]string{
	"div":  {"(1 / 0)", "(1 % 0)", "(s1 / l1)", "(l0 % t1)", "((1 / 0) + m0[1])", "m1[(7 / 0)]"},
	"cell": {"m0[1]", "m1[6]", "m1[l0]", "(m0[1] + (1 / 0))", "(1 / m0[7])"},
}

// TestTrapsOfEachStmt: none is caught, whatever number a try catches.
func TestTrapsOfEachStmt(t *testing.T) {
	for trap, expressions := range trapsOf {
		for _, e := range expressions {
			for _, s := range []string{"t0 = " + e, "m1[" + e + "] = 1", "m1[1] = " + e, "if " + e + "; out 1; end", "if " + e + "; out 1; else; out 2; end", "out " + e} {
				checkRunCases(t, []runCase{
					{s, trap, ""},
					{"out 3; " + s + "; out 4", "3 " + trap, ""},
					{"if 1; " + s + "; end; t1 = 2", trap, ""},
					{"if 0; else; " + s + "; end; t1 = 2", trap, ""},
					{"loop 4; out 5; " + s + "; end", "5 " + trap, ""},
					{"try; throw 1; catch 1; " + s + "; end; out 6", trap, ""},
					{"try; throw 1; catch 1; try; " + s + "; catch 1; out 5; end; end; out 6", trap, ""},
				})
				for n := range 10 {
					catch := fmt.Sprintf("catch %d; t1 = 3; out 5; end; out 6", n)
					checkRunCases(t, []runCase{
						{"try; out 3; " + s + "; " + catch, "3 " + trap, ""},
						{"try; try; " + s + "; " + catch + "; " + catch, trap, ""},
						{"loop 2; try; " + s + "; " + catch + "; end", trap, ""},
						{"try; loop 2; " + s + "; end; " + catch, trap, ""},
					})
				}
			}
		}
	}
}

// TestTrapsOfPuts: those of At go ahead of those of Exp, and both ahead of the
// cell.
func TestTrapsOfPuts(t *testing.T) {
	checkRunCases(t, []runCase{
		{"m1[(1 / 0)] = 1", "div", ""},
		{"m1[m0[1]] = 1", "cell", ""},
		{"m1[1] = (1 / 0)", "div", ""},
		{"m1[1] = m0[1]", "cell", ""},
		// both
		{"m1[(1 / 0)] = m0[1]", "div", ""},
		{"m1[m0[1]] = (1 / 0)", "cell", ""},
		{"m1[(1 / 0)] = (1 % 0)", "div", ""},
		{"m1[m0[1]] = m1[7]", "cell", ""},
		// a cell that there is not, alone and with a trap of Exp
		{"m0[1] = 1", "cell", ""},
		{"m0[7] = 1", "cell", ""},
		{"m1[6] = 1", "cell", ""},
		{"m1[l0] = 1", "cell", ""},
		{"m1[-1] = 1", "cell", ""},
		{"m0[1] = (1 / 0)", "div", ""},
		{"m1[6] = (1 % 0)", "div", ""},
		{"m1[7] = ((1 / 0) + m0[1])", "div", ""},
		{"m1[6] = m0[1]", "cell", ""},
		{"m1[7] = (m0[1] + (1 / 0))", "cell", ""},
		// with a trap of At, whatever it would be without
		{"m1[(6 + (1 / 0))] = 1", "div", ""},
		{"m0[!(1 / 0)] = 1", "div", ""},
		{"m0[!(1 / 0)] = m0[1]", "div", ""},
		{"m0[!m1[7]] = (1 / 0)", "cell", ""},
		{"m1[(m0[5] + 7)] = 1", "cell", ""},
		// the last cell, and what stays where there is none
		{"m0[0] = 5; m1[5] = 6; m1[0] = 4", "done", "00 5 400006"},
		{"m0[0] = 5; m1[5] = 6; m1[6] = 7; m1[5] = 3", "cell", "00 5 000006"},
		{"m1[5] = 6; m1[5] = (1 / 0)", "div", "00 0 000006"},
		{"m1[5] = 6; m1[(5 / l1)] = 1", "div", "00 0 000006"},
		{"out 1; try; out 2; m0[s0] = 3; catch 2; out 4; end; out 5", "12 cell", ""},
	})
}

func TestWhatWasPutOutAhead(t *testing.T) {
	checkRunCases(t, []runCase{
		{"out 1; out 2; out 3; throw 4; out 5", "123 throw 4", ""},
		{"out 1; out 2; out 3; out (4 / 0); out 5", "123 div", ""},
		{"out 1; out 2; t0 = 6; t0 = m0[4]; out 5; t0 = 7", "12 cell", "60 0 000000"},
		{"loop 3; out t0; t0 = (t0 + 1); end; m1[t0] = 5; throw 0; m1[t0] = 6", "012 throw 0", "30 0 000500"},
		{"try; out 1; throw 1; catch 1; out 2; end; out (1 % 0)", "12 div", ""},
		{"out 0; throw 0", "0 throw 0", ""},
		{"out 0; out 0; out 0", "000 done", ""},
	})
}

// aroundOne are blocks with a place for a Body, * , in each kind of body.
var aroundOne = []string{
	"if 1; *; end", "if 0; *; end", "if s1; *; else; out 6; end", "if l1; *; else; out 6; end", "if 7; out 6; else; *; end", "if t1; out 6; else; *; end",
	"loop 0; *; end", "loop 1; *; end", "loop 4; *; end", "try; *; catch 1; out 6; end", "try; *; catch 0; out 6; end", "try; out 6; catch 1; *; end",
	"try; throw 1; catch 1; *; end", "try; throw 0; catch 1; *; end",
}

// eachStmt has each Op, with what belongs to it.
var eachStmt = []string{
	"t0 = (t0 + 3)", "m1[t0] = (m1[t0] + 1)", "if t0; t0 = 5; end", "if t0; t0 = 5; else; t0 = 2; end", "loop 2; t0 = (t0 + 1); end", "out t0", "out (4 / t0)", "throw 0", "throw 1",
	"try; throw 1; catch 1; t0 = 4; end", "try; throw 0; catch 1; t0 = 4; end",
}

// TestEachStmtWithinEachBlock has each within two blocks, and something ahead
// and behind, against the machine.
func TestEachStmtWithinEachBlock(t *testing.T) {
	ends := map[int64]int{}
	lows, secrets := []int64{6, 0}, []int64{1, 5}
	for _, s := range eachStmt {
		for _, outer := range append(aroundOne, "*") {
			for _, inner := range append(aroundOne, "*") {
				body := strings.Replace(strings.Replace(outer, "*", inner+"; t1 = (t1 + 1)", 1), "*", "out t0; "+s+"; out t0", 1)
				m := checkRun(t, roomyBody(t, body+"; out t0; out t1"), lows, secrets)
				ends[m.o.End]++
			}
		}
	}
	if ends[impl.EnDone] < 200 || ends[impl.EnThrow] < 200 || ends[impl.EnTrap] < 50 {
		t.Errorf("%v: too few to tell", ends)
	}
}

// TestEachStmtWithinABlockByHand: what is left of a Stmt within each kind.
func TestEachStmtWithinABlockByHand(t *testing.T) {
	reached := []string{"*", "if 1; *; end", "if 2; *; else; out 6; end", "if 0; out 6; else; *; end", "loop 1; *; end", "try; *; catch 9; out 6; end", "try; throw 3; catch 3; *; end"}
	passed := []string{"if 0; *; end", "if 0; *; else; end", "if 1; else; *; end", "loop 0; *; end", "try; catch 9; *; end"}
	cases := []runCase{
		{"t0 = 3", "7 done", "30 0 000000"}, {"m1[2] = 3", "7 done", "00 0 003000"}, {"out 3", "37 done", ""}, {"throw 3", "throw 3", ""},
		{"if 3; t1 = 3; end", "7 done", "03 0 000000"}, {"if 0; t1 = 3; else; t1 = 4; end", "7 done", "04 0 000000"},
		{"loop 3; t0 = (t0 + 1); end", "7 done", "30 0 000000"}, {"try; throw 3; catch 3; t1 = 1; end", "7 done", "01 0 000000"},
		{"out m0[3]", "cell", ""}, {"t0 = (3 / 0)", "div", ""},
	}
	for _, c := range cases {
		for _, around := range reached {
			checkRunCases(t, []runCase{{strings.Replace(around, "*", c.body, 1) + "; out 7", c.seen, c.left}})
		}
		for _, around := range passed {
			checkRunCases(t, []runCase{{strings.Replace(around, "*", c.body, 1) + "; out 7", "7 done", ""}})
		}
	}
}

// shortStmts make up short Bodies. What an StIf asks changes from round to round.
var shortStmts = []impl.Stmt{
	told(variable(4)), set(4, []impl.Term{variable(4), num(1), sign(impl.TmAdd)}), numbered(impl.StThrow, 1), numbered(impl.StThrow, 2),
	asked(variable(4), num(1), sign(impl.TmAnd)), plain(impl.StElse), plain(impl.StEnd), numbered(impl.StLoop, 3), plain(impl.StTry), numbered(impl.StCatch, 1), numbered(impl.StCatch, 2),
}

// mayFollow tells whether a Body may go on with that Op, and which blocks are
// open then. A block is named by the Op that began its last body so far.
func mayFollow(open []int64, op int64) ([]int64, bool) {
	last := int64(pastTheEnd)
	if len(open) > 0 {
		last = open[len(open)-1]
	}
	switch op {
	case impl.StIf, impl.StLoop, impl.StTry:
		return append(slices.Clone(open), op), true
	case impl.StElse, impl.StCatch:
		if last != op-1 {
			return nil, false
		}
		return append(slices.Clone(open[:len(open)-1]), op), true
	case impl.StEnd:
		if last == pastTheEnd || last == impl.StTry {
			return nil, false
		}
		return open[:len(open)-1], true
	}
	return open, true
}

// eachShortBody goes through all of these that are well nested, of at most so
// many.
func eachShortBody(stmts []impl.Stmt, body []impl.Stmt, open []int64, most int, call func(body []impl.Stmt)) {
	if len(body)+len(open) > most {
		return // there is no room for the StEnds
	}
	if len(open) == 0 {
		call(body)
	}
	for _, s := range stmts {
		if next, is := mayFollow(open, s.Op); is {
			eachShortBody(stmts, append(slices.Clone(body), s), next, most, call)
		}
	}
}

func TestShortBodiesAllRun(t *testing.T) {
	count, caught := 0, int64(0)
	lows, secrets := []int64{6, 0}, []int64{1, 5}
	eachShortBody(shortStmts, nil, nil, 7, func(body []impl.Stmt) {
		m := checkRun(t, roomy(body...), lows, secrets)
		count++
		caught += m.caught
	})
	if count < 100000 || caught < 3000 {
		t.Errorf("%d bodies, %d times caught: too few to tell", count, caught)
	}
}

// lastsOf are the greatest values that the inputs may have.
func lastsOf(inputs []impl.Input) []int64 {
	var list []int64
	for _, input := range inputs {
		list = append(list, input.Max)
	}
	return list
}

// grownValues are some that the inputs may have.
func grownValues(source *rand.Rand, inputs []impl.Input) []int64 {
	list := lastsOf(inputs)
	for i, most := range list {
		list[i] = source.Int63n(most + 1)
	}
	return list
}

// checkStart holds StartOf against a machine that has nothing to do.
func checkStart(t *testing.T, name string, p impl.Prog, lows, secrets []int64) {
	t.Helper()
	want := byMachine(impl.Prog{Temps: p.Temps, Arrays: p.Arrays}, lows, secrets).v
	if v, is := impl.StartOf(p, lows, secrets); !is || !sameEnvs(v, want) || !impl.EnvOk(p, v) {
		t.Errorf("%s: StartOf %v and %v = %v, %v; want %v", name, lows, secrets, v, is, want)
	}
	checkRun(t, p, lows, secrets)
}

// checkNoStart: there is no run either.
func checkNoStart(t *testing.T, name string, p impl.Prog, lows, secrets []int64) {
	t.Helper()
	if v, is := impl.StartOf(p, lows, secrets); is || !sameEnvs(v, impl.Env{}) {
		t.Errorf("%s: StartOf is %v, %v; want none", name, v, is)
	}
	if o, is := impl.RunOf(p, lows, secrets); is || !sameOutcomes(o, impl.Outcome{}) {
		t.Errorf("%s: RunOf is %v, %v; want none", name, o, is)
	}
	if v, is := impl.AfterOf(p, lows, secrets); is || !sameEnvs(v, impl.Env{}) {
		t.Errorf("%s: AfterOf is %v, %v; want none", name, v, is)
	}
}

func TestStartByHand(t *testing.T) {
	v, is := impl.StartOf(roomy(), []int64{6, 0}, []int64{1, 5})
	if want := (impl.Env{Vars: []int64{6, 0, 1, 5, 0, 0}, Cells: [][]int64{{0}, {0, 0, 0, 0, 0, 0}}}); !is || !sameEnvs(v, want) {
		t.Errorf("StartOf roomy = %v, %v; want %v", v, is, want)
	}
	v, is = impl.StartOf(fullest(told(num(1))), []int64{3, 0, 1}, []int64{15, 0, 7})
	if want := (impl.Env{Vars: []int64{3, 0, 1, 15, 0, 7, 0, 0, 0, 0, 0, 0}, Cells: [][]int64{{0, 0, 0, 0, 0, 0}, {0}}}); !is || !sameEnvs(v, want) {
		t.Errorf("StartOf fullest = %v, %v; want %v", v, is, want)
	}
	least := impl.Prog{Width: 1}
	for _, none := range [][]int64{nil, {}} {
		checkStart(t, "the least one", least, none, nil)
		checkStart(t, "the least one", least, nil, none)
		checkStart(t, "the least one", least, none, none)
		checkStart(t, "no Lows", impl.Prog{Width: 2, Secrets: maxes(3)}, none, []int64{2})
		checkStart(t, "no Secrets", impl.Prog{Width: 2, Lows: maxes(3)}, []int64{2}, none)
	}
	if v, is := impl.StartOf(least, nil, nil); !is || len(v.Vars) != 0 || len(v.Cells) != 0 {
		t.Errorf("StartOf the least one = %v, %v", v, is)
	}
}

// TestValuesOfInputs has each value that an input may have, and those next to
// the first and to the last, at each place.
func TestValuesOfInputs(t *testing.T) {
	for _, p := range []impl.Prog{roomy(told(variable(0))), fullest(told(variable(3))), {Width: 8, Lows: maxes(255)}, {Width: 8, Secrets: maxes(200, 1)}, {Width: 1, Lows: maxes(0, 1), Secrets: maxes(1, 0)}} {
		lows, secrets := lastsOf(p.Lows), lastsOf(p.Secrets)
		checkStart(t, "the first ones", p, make([]int64, len(lows)), make([]int64, len(secrets)))
		checkStart(t, "the last ones", p, lows, secrets)
		for _, list := range [][]int64{lows, secrets} {
			for at, most := range list {
				for n := range most + 1 {
					list[at] = n
					checkStart(t, "one within", p, lows, secrets)
				}
				for _, n := range append([]int64{-2, -1, -most - 1, most + 1, most + 2, 2*most + 1}, far[1:]...) {
					if n >= 0 && n <= most {
						continue
					}
					list[at] = n
					checkNoStart(t, fmt.Sprintf("%d where %d is the last", n, most), p, lows, secrets)
				}
				list[at] = most
			}
		}
	}
}

// TestHowManyValues: one too many or too few of a kind, though the others make
// up for it.
func TestHowManyValues(t *testing.T) {
	for lows := range 4 {
		for secrets := range 4 {
			p := impl.Prog{Width: 2, Lows: maxes(slices.Repeat([]int64{1}, lows)...), Secrets: maxes(slices.Repeat([]int64{1}, secrets)...), Temps: 2, Arrays: []int64{2}}
			for a := range 8 {
				for b := range 8 {
					first, second := slices.Repeat([]int64{1}, a), slices.Repeat([]int64{1}, b)
					if a == lows && b == secrets {
						checkStart(t, "as many", p, first, second)
					} else {
						checkNoStart(t, fmt.Sprintf("%d for %d Lows, %d for %d Secrets", a, lows, b, secrets), p, first, second)
					}
				}
			}
			many := make([]int64, 5000)
			checkNoStart(t, "many Lows", p, many, make([]int64, secrets))
			checkNoStart(t, "many Secrets", p, make([]int64, lows), many)
		}
	}
}

func TestRunsOfProgramsThatAreNotRight(t *testing.T) {
	for _, f := range allFaults() {
		p := broken(f)
		checkNoStart(t, f.name, p, make([]int64, len(p.Lows)), make([]int64, len(p.Secrets)))
		checkNoStart(t, f.name, p, []int64{1}, []int64{1})
		checkNoStart(t, f.name, p, nil, nil)
		checkNoStart(t, f.name+", and a Low of -1", p, []int64{-1}, []int64{1})
		for _, g := range allFaults() {
			q := broken(f, g)
			checkNoStart(t, f.name+" and "+g.name, q, make([]int64, len(q.Lows)), make([]int64, len(q.Secrets)))
		}
	}
	checkStart(t, "the right one", broken(), []int64{1}, []int64{1})
	checkNoStart(t, "the zero Prog", impl.Prog{}, nil, nil)
	for _, width := range append([]int64{-8, -1, 0, 9, 62, 63, 64, 65}, far...) {
		checkNoStart(t, fmt.Sprintf("Width %d", width), impl.Prog{Width: width, Body: outs(1)}, nil, nil)
	}
}

// TestRunsAtTheLimits: as many Stmts, steps and blocks within blocks as there
// may be.
func TestRunsAtTheLimits(t *testing.T) {
	lows, secrets := []int64{6, 0}, []int64{1, 5}
	more := set(4, []impl.Term{variable(4), num(1), sign(impl.TmAdd)})
	if m := checkRun(t, roomy(outs(40)...), lows, secrets); len(m.o.Values) != 40 {
		t.Errorf("%d values of 40", len(m.o.Values))
	}
	whole := slices.Concat(loops(outs(3), 4, 4, 4), bodyOfSteps(103))
	if m := checkRun(t, roomy(whole...), lows, secrets); m.steps != 400 || impl.StepsOf(roomy(whole...)) != 400 {
		t.Errorf("%d steps of 400", m.steps)
	}
	checkRun(t, roomy(loops([]impl.Stmt{more, told(variable(4))}, 4, 4, 4)...), lows, secrets)
	checkRun(t, roomy(loops(nil, slices.Repeat([]int64{1}, 20)...)...), lows, secrets)
	for thrown := range int64(10) {
		for around := range int64(10) {
			// the outermost of thirteen may catch it, or none
			body := []impl.Stmt{numbered(impl.StThrow, thrown)}
			for depth := range int64(12) {
				n := (thrown + 1 + depth%9) % 10
				body = wrapped(plain(impl.StTry), append(body, numbered(impl.StCatch, n))...)
			}
			body = wrapped(plain(impl.StTry), append(body, numbered(impl.StCatch, around))...)
			m := checkRun(t, roomy(body...), lows, secrets)
			if want := oneWhere(thrown != around); m.o.End != want {
				t.Errorf("%d is thrown, %d caught: the machine tells %v", thrown, around, m.o)
			}
		}
	}
}

// TestRunsOfEachWidth: what is put out and set is cut off at the Width, and
// cells past the last value can't be met.
func TestRunsOfEachWidth(t *testing.T) {
	for width := int64(1); width <= 8; width++ {
		greatest := int64(1)<<width - 1
		p := impl.Prog{Width: width, Lows: maxes(greatest), Temps: 1, Arrays: []int64{6}, Body: []impl.Stmt{
			set(1, []impl.Term{variable(0), num(1), sign(impl.TmAdd)}), told(variable(1)), told(num(0), num(1), sign(impl.TmSub)),
			put(0, []impl.Term{variable(0)}, []impl.Term{variable(0), sign(impl.TmNot)}), told(variable(0), cell(0)),
		}}
		for n := range greatest + 1 {
			m := checkRun(t, p, []int64{n}, nil)
			want := impl.Outcome{Values: []int64{(n + 1) % (greatest + 1), greatest, greatest - n}}
			if n >= 6 {
				want = impl.Outcome{Values: want.Values[:2], End: impl.EnTrap, Code: impl.TrCell}
			}
			if !sameOutcomes(m.o, want) {
				t.Errorf("Width %d, %d: the machine tells %v, not %v", width, n, m.o, want)
			}
		}
	}
}

// lively changes what stops most runs early: its expressions are short, and
// only three numbers are thrown and caught.
func lively(source *rand.Rand, p impl.Prog) impl.Prog {
	body := slices.Clone(p.Body)
	for i, s := range body {
		if s.Op == impl.StThrow || s.Op == impl.StCatch {
			body[i].N = source.Int63n(3)
		}
		if len(s.At) > 0 {
			body[i].At = []impl.Term{num(min(source.Int63n(p.Arrays[s.N]), 1<<p.Width-1))}
		}
		if len(s.Exp) > 0 {
			body[i].Exp = grownIn(source, p, 1+source.Intn(6))
		}
	}
	p.Body = body
	return p
}

// TestRunAgainTellsTheSame is the promise, over many programs, with others run
// in between.
func TestRunAgainTellsTheSame(t *testing.T) {
	source := rand.New(rand.NewSource(61))
	ends := map[int64]int{}
	caught, told := int64(0), 0
	for range 6000 {
		p := grownProg(source)
		if source.Intn(8) > 0 {
			p = lively(source, p)
		}
		lows, secrets := grownValues(source, p.Lows), grownValues(source, p.Secrets)
		first, is := impl.RunOf(p, lows, secrets)
		checkRun(t, p, grownValues(source, p.Lows), grownValues(source, p.Secrets))
		m := checkRun(t, p, lows, secrets)
		if again, _ := impl.RunOf(p, lows, secrets); !is || !impl.LikeOutcomes(first, again) || !impl.LikeOutcomes(first, m.o) {
			t.Errorf("RunOf is %v, then %v, of\n%s", first, again, writtenProg(p))
		}
		checkSeen(t, p, first)
		ends[m.o.End]++
		caught += m.caught
		told += len(m.o.Values)
	}
	if ends[impl.EnDone] < 1000 || ends[impl.EnThrow] < 1000 || ends[impl.EnTrap] < 1000 || caught < 300 || told < 3000 {
		t.Errorf("%v ends, %d caught, %d values: too few to tell", ends, caught, told)
	}
}

// checkSeen: outputs are values, and the ends are those that there are.
func checkSeen(t *testing.T, p impl.Prog, o impl.Outcome) {
	t.Helper()
	for _, n := range o.Values {
		if n < 0 || n >= 1<<p.Width {
			t.Errorf("%d is put out at Width %d, of\n%s", n, p.Width, writtenProg(p))
		}
	}
	most := map[int64]int64{impl.EnDone: 0, impl.EnThrow: 9, impl.EnTrap: impl.TrCell}
	last, is := most[o.End]
	if !is || o.Code < 0 || o.Code > last || o.End == impl.EnTrap && o.Code == impl.TrNone {
		t.Errorf("it ends with %d and %d, of\n%s", o.End, o.Code, writtenProg(p))
	}
}

// TestAllInputsOfAProgram runs the same one with every input that there is.
func TestAllInputsOfAProgram(t *testing.T) {
	source := rand.New(rand.NewSource(62))
	for range 40 {
		p := lively(source, grownProg(source))
		for _, list := range everyInput(p) {
			checkRun(t, p, list[:len(p.Lows)], list[len(p.Lows):])
		}
	}
}

func TestLikeOutcomes(t *testing.T) {
	outcomes := []impl.Outcome{
		{}, {End: impl.EnThrow}, {End: impl.EnTrap}, {End: -1}, {Code: 1}, {Code: -1}, {Code: 9}, {End: impl.EnThrow, Code: 1}, {End: impl.EnTrap, Code: 1}, {End: impl.EnThrow, Code: 2}, {End: impl.EnTrap, Code: 2}, {End: 2, Code: 9},
		{Values: []int64{0}}, {Values: []int64{1}}, {Values: []int64{-1}}, {Values: []int64{0, 0}}, {Values: []int64{0, 1}}, {Values: []int64{1, 0}}, {Values: []int64{1, 1}}, {Values: []int64{0, 0, 0}}, {Values: []int64{1, 2, 3}}, {Values: []int64{1, 2, 4}}, {Values: []int64{2, 2, 3}}, {Values: []int64{1, 3, 3}}, {Values: []int64{1, 2}}, {Values: []int64{2, 3}}, {Values: []int64{1, 2, 3, 0}}, {Values: []int64{0, 1, 2, 3}},
		{Values: []int64{1, 2, 3}, End: impl.EnThrow}, {Values: []int64{1, 2, 3}, End: impl.EnTrap}, {Values: []int64{1, 2, 3}, Code: 1}, {Values: []int64{1, 2, 3}, End: impl.EnThrow, Code: 1}, {Values: []int64{1, 2, 3}, End: impl.EnTrap, Code: 1}, {Values: []int64{1, 2, 4}, End: impl.EnTrap, Code: 1}, {Values: []int64{1, 2}, End: impl.EnTrap, Code: 1},
		{Values: []int64{256}}, {Values: []int64{1 << 32}}, {End: 1 << 32}, {Code: 1 << 32}, {Values: make([]int64, 400)}, {Values: make([]int64, 401)},
	}
	for i, a := range outcomes {
		for k, b := range outcomes {
			b.Values = roomBehind(b.Values, int64(i))
			if got := impl.LikeOutcomes(a, b); got != (i == k) {
				t.Errorf("LikeOutcomes(%v, %v) = %v", a, b, got)
			}
		}
	}
	for _, end := range []int64{impl.EnDone, impl.EnThrow, impl.EnTrap} {
		empty, none := impl.Outcome{Values: []int64{}, End: end, Code: 1}, impl.Outcome{End: end, Code: 1}
		if !impl.LikeOutcomes(empty, none) || !impl.LikeOutcomes(none, empty) || !impl.LikeOutcomes(empty, empty) || !impl.LikeOutcomes(none, none) {
			t.Errorf("an empty list and nil are not alike where End is %d", end)
		}
		none.Code = 2
		if impl.LikeOutcomes(empty, none) {
			t.Errorf("Outcomes with no values, where End is %d, are alike whatever the Code", end)
		}
	}
}

// spoilEnv writes over all the memory of an Env.
func spoilEnv(v impl.Env) {
	for _, cells := range v.Cells[:cap(v.Cells)] {
		spoil(cells, spoiledMark)
	}
	spoil(v.Cells, []int64{spoiledMark})
	spoil(v.Vars, spoiledMark)
}

// askAllOfRun spoils each answer and asks again.
func askAllOfRun(t *testing.T, p impl.Prog, lows, secrets []int64) {
	t.Helper()
	for _, ask := range []func(p impl.Prog, lows, secrets []int64) (impl.Env, bool){impl.StartOf, impl.AfterOf} {
		first, is := ask(p, lows, secrets)
		kept := changedEnv(first, func(v *impl.Env) {})
		checkApart(t, "an Env", spoiledMark, append(slices.Clone(first.Cells), first.Vars)...)
		spoilEnv(first)
		if again, same := ask(p, lows, secrets); same != is || !sameEnvs(kept, again) {
			t.Errorf("an Env is %v, then %v: it is kept from call to call, or a part of an argument", kept, again)
		}
	}
	checkFresh(t, "RunOf", func() []int64 {
		o, _ := impl.RunOf(p, lows, secrets)
		return o.Values
	})
}

func checkRunStays(t *testing.T, name string, p impl.Prog, lows, secrets []int64) {
	t.Helper()
	a, b := argumentOf(lows), argumentOf(secrets)
	checkStays(t, name, p, func(given impl.Prog) { askAllOfRun(t, given, a.list, b.list) })
	if !a.untouched() || !b.untouched() {
		t.Errorf("%s: %v and %v were %v and %v", name, a.list[:cap(a.list)], b.list[:cap(b.list)], a.kept, b.kept)
	}
}

func TestRunAnswersAreNewAndArgumentsStay(t *testing.T) {
	source := rand.New(rand.NewSource(63))
	for range 400 {
		p := lively(source, grownProg(source))
		checkRunStays(t, "a right Prog", p, grownValues(source, p.Lows), grownValues(source, p.Secrets))
		checkRunStays(t, "a Low too many", p, make([]int64, len(p.Lows)+1), make([]int64, len(p.Secrets)))
	}
	for _, f := range allFaults() {
		p := broken(f)
		checkRunStays(t, f.name, p, make([]int64, len(p.Lows)), make([]int64, len(p.Secrets)))
	}
	busy := roomyBody(t, "t0 = l0; t1 = s1; m0[0] = 3; loop 4; m1[t0] = t1; t0 = (t0 - 1); out t0; end")
	checkRunStays(t, "all is set", busy, []int64{5, 0}, []int64{1, 5})
	a, b := argumentOf([]int64{1, 2, 3}), argumentOf([]int64{1, 2, 4})
	impl.LikeOutcomes(impl.Outcome{Values: a.list}, impl.Outcome{Values: b.list})
	if !a.untouched() || !b.untouched() {
		t.Errorf("LikeOutcomes writes into its arguments")
	}
}

// TestNothingIsLeftOfARun: each begins with 0, whatever another one did.
func TestNothingIsLeftOfARun(t *testing.T) {
	busy := "t0 = 7; t1 = 6; m0[0] = 5; m1[5] = 4; out 3; "
	for range 3 {
		checkRunCases(t, []runCase{
			{busy + "throw 2", "3 throw 2", "76 5 000004"},
			{"out t0; out t1; out m0[0]; out m1[5]", "0000 done", ""},
			{busy + "out m0[1]", "3 cell", "76 5 000004"},
			{"try; out t0; throw 2; catch 2; out t1; end", "00 done", ""},
			{"throw 2", "throw 2", ""},
			{"", "done", ""},
		})
	}
}
