package tests

import (
	"fmt"
	"math"
	"math/rand"
	"slices"
	"strconv"
	"strings"
	"testing"

	"loop.example/g00697/impl"
)

// allRuns are the Outcomes of all inputs of a right Prog, by number, and what
// each of them tells, in words.
type allRuns struct {
	p      impl.Prog
	inputs [][]int64
	runs   []impl.Outcome
	words  []string
}

func allRunsOf(t *testing.T, p impl.Prog) allRuns {
	t.Helper()
	all := allRuns{p: p, inputs: everyInput(p)}
	for _, values := range all.inputs {
		o, is := impl.RunOf(p, values[:len(p.Lows)], values[len(p.Lows):])
		if !is {
			t.Fatalf("there is no run of %v, of\n%s", values, writtenProg(p))
		}
		all.runs = append(all.runs, o)
		all.words = append(all.words, fmt.Sprint(o.Values, o.End, o.Code))
	}
	return all
}

func agreeBut(a, b []int64, free []bool) bool {
	for i := range a {
		if a[i] != b[i] && !free[i] {
			return false
		}
	}
	return true
}

// firsts are the Outcomes of the inputs that are these but where free, of Lows
// and Secrets, is true: each where it comes first.
func (all allRuns) firsts(values []int64, free []bool) []impl.Outcome {
	var list []impl.Outcome
	told := map[string]bool{}
	for n, other := range all.inputs {
		if agreeBut(values, other, free) && !told[all.words[n]] {
			told[all.words[n]] = true
			list = append(list, all.runs[n])
		}
	}
	return list
}

// most asks of inputs that are 0 where free is true: the others have the same
// firsts as one of these.
func (all allRuns) most(free []bool) int64 {
	most := 0
	nought := make([]int64, len(free))
	bound := slices.Clone(free)
	for i := range bound {
		bound[i] = !free[i]
	}
	for _, values := range all.inputs {
		if agreeBut(nought, values, bound) {
			most = max(most, len(all.firsts(values, free)))
		}
	}
	return int64(most)
}

// withLows is a free of all inputs: no Low is.
func withLows(p impl.Prog, free []bool) []bool {
	return slices.Concat(make([]bool, len(p.Lows)), free)
}

func alone(count, at int) []bool {
	free := make([]bool, count)
	free[at] = true
	return free
}

func allFree(count int) []bool { return slices.Repeat([]bool{true}, count) }

// choices are all lists of so many yeses and noes.
func choices(count int) [][]bool {
	lists := [][]bool{nil}
	for range count {
		var more [][]bool
		for _, list := range lists {
			more = append(more, append(slices.Clone(list), false), append(slices.Clone(list), true))
		}
		lists = more
	}
	return lists
}

func checkOutcomesOf(t *testing.T, all allRuns, values []int64, free []bool) {
	t.Helper()
	lows := len(all.p.Lows)
	got := impl.OutcomesOf(all.p, values[:lows], values[lows:], free)
	if want := all.firsts(values, withLows(all.p, free)); !slices.EqualFunc(got, want, sameOutcomes) {
		t.Errorf("OutcomesOf %v and %v with %v free = %v; want %v, of\n%s", values[:lows], values[lows:], free, got, want, writtenProg(all.p))
	}
}

var noSecrets = []int64{-1, -2, math.MinInt64, math.MinInt64 + 1, math.MaxInt64, math.MaxInt64 - 1, 1 << 32, -1 << 32, 1<<32 + 1, 1 << 8}

// checkMost holds MostFor, MostJoint and AllOutcomes against all runs.
func checkMost(t *testing.T, all allRuns) {
	t.Helper()
	p, count := all.p, len(all.p.Secrets)
	for secret := range count {
		want := all.most(withLows(p, alone(count, secret)))
		if got := impl.MostFor(p, int64(secret)); got != want {
			t.Errorf("MostFor %d = %d; want %d of\n%s", secret, got, want, writtenProg(p))
		}
	}
	for _, secret := range append([]int64{int64(count), int64(count + 1), int64(count + len(p.Lows)), int64(count) + 3}, noSecrets...) {
		if got := impl.MostFor(p, secret); got != -1 && (secret < 0 || secret >= int64(count)) {
			t.Errorf("MostFor %d of %d Secrets = %d; want -1", secret, count, got)
		}
	}
	if got, want := impl.MostJoint(p), all.most(withLows(p, allFree(count))); got != want {
		t.Errorf("MostJoint = %d; want %d of\n%s", got, want, writtenProg(p))
	}
	want := all.firsts(all.inputs[0], allFree(len(p.Lows)+count))
	if got := impl.AllOutcomes(p); !slices.EqualFunc(got, want, sameOutcomes) {
		t.Errorf("AllOutcomes = %v; want %v of\n%s", got, want, writtenProg(p))
	}
}

// checkCounts asks of each choice of free at so many inputs, spread over all.
func checkCounts(t *testing.T, p impl.Prog, most int) allRuns {
	t.Helper()
	all := allRunsOf(t, p)
	checkMost(t, all)
	for n := 0; n < len(all.inputs); n += 1 + len(all.inputs)/most {
		for _, free := range choices(len(p.Secrets)) {
			checkOutcomesOf(t, all, all.inputs[n], free)
		}
	}
	return all
}

// ofText is the Prog of a text with ; for the ends of lines.
func ofText(t *testing.T, text string) impl.Prog {
	t.Helper()
	p, is := readByLines(strings.ReplaceAll(text, "; ", "\n") + "\n")
	if !is || !impl.ProgOk(p) {
		t.Fatalf("%q is no Prog", text)
	}
	return p
}

func allSeen(list []impl.Outcome) string {
	var words []string
	for _, o := range list {
		words = append(words, seen(o))
	}
	return strings.Join(words, ", ")
}

func ofDigits(digits string) []int64 {
	var list []int64
	for _, digit := range digits {
		list = append(list, int64(digit-'0'))
	}
	return list
}

func freeIn(digits string) []bool {
	var free []bool
	for _, digit := range digits {
		free = append(free, digit == '1')
	}
	return free
}

const aBranch = "width 3; low 1; secret 3 1; secret 2 0; temps 0; if l0; out (s0 & 1); else; out (s0 == s1); end"
const bothOut = "width 2; secret 1 0; secret 2 0; temps 0; out s0; out s1"
const masked = "width 2; low 3; secret 3 0; temps 0; out (l0 & s0)"
const noughts = "width 2; low 0; secret 0 0; secret 2 1; temps 0; out l0; out s0; out s1"
const eachEnd = "width 3; secret 7 0; temps 0; array 1; if (s0 == 1); throw 0; end; if (s0 == 2); throw 1; end; if (s0 == 3); throw 2; end; " +
	"if (s0 == 4); out (1 / 0); end; if (s0 == 5); out m0[1]; end; if (s0 == 6); throw 1; end"

func TestOutcomesByHand(t *testing.T) {
	cases := []struct{ text, lows, secrets, free, want string }{
		{aBranch, "0", "01", "00", "0 done"},
		{aBranch, "0", "01", "10", "0 done, 1 done"},
		{aBranch, "0", "01", "01", "1 done, 0 done"},
		{aBranch, "0", "01", "11", "1 done, 0 done"},
		{aBranch, "0", "32", "01", "0 done"},
		{aBranch, "0", "32", "10", "0 done, 1 done"},
		{aBranch, "0", "22", "00", "1 done"},
		{aBranch, "1", "20", "00", "0 done"},
		{aBranch, "1", "20", "10", "0 done, 1 done"},
		{aBranch, "1", "20", "01", "0 done"},
		{aBranch, "1", "32", "01", "1 done"},
		{aBranch, "1", "32", "11", "0 done, 1 done"},
		// the first Secret counts least
		{bothOut, "", "00", "11", "00 done, 10 done, 01 done, 11 done, 02 done, 12 done"},
		{bothOut, "", "12", "11", "00 done, 10 done, 01 done, 11 done, 02 done, 12 done"},
		{bothOut, "", "12", "10", "02 done, 12 done"},
		{bothOut, "", "12", "01", "10 done, 11 done, 12 done"},
		{bothOut, "", "12", "00", "12 done"},
		// not in the order of what is told
		{"width 3; secret 3 0; temps 0; out (3 - s0)", "", "1", "1", "3 done, 2 done, 1 done, 0 done"},
		{"width 3; secret 7 0; temps 0; out ((s0 * 3) & 3)", "", "5", "1", "0 done, 3 done, 2 done, 1 done"},
		{"width 3; secret 7 0; temps 0; out (s0 < 3)", "", "7", "1", "1 done, 0 done"},
		// Lows are never free
		{masked, "0", "3", "1", "0 done"},
		{masked, "2", "0", "1", "0 done, 2 done"},
		{masked, "3", "2", "1", "0 done, 1 done, 2 done, 3 done"},
		{masked, "3", "2", "0", "2 done"},
		// where nothing can be free
		{"width 2; low 3; temps 0; out l0", "2", "", "", "2 done"},
		{"width 1; temps 0; out 1", "", "", "", "1 done"},
		{"width 1; temps 0", "", "", "", "done"},
		{noughts, "0", "01", "00", "001 done"},
		{noughts, "0", "01", "10", "001 done"},
		{noughts, "0", "01", "01", "000 done, 001 done, 002 done"},
		{noughts, "0", "01", "11", "000 done, 001 done, 002 done"},
		{"width 2; secret 3 0; temps 0", "", "2", "1", "done"},
	}
	for _, c := range cases {
		got := impl.OutcomesOf(ofText(t, c.text), ofDigits(c.lows), ofDigits(c.secrets), freeIn(c.free))
		if allSeen(got) != c.want {
			t.Errorf("%s: OutcomesOf %s and %s with %s free = %s; want %s", c.text, c.lows, c.secrets, c.free, allSeen(got), c.want)
		}
	}
}

// TestOutcomesToldApart: those that differ in but one thing, and those that
// are alike.
func TestOutcomesToldApart(t *testing.T) {
	head := "width 3; secret 7 0; temps 1; array 1; "
	cases := []struct{ text, want string }{
		{eachEnd, "done, throw 0, throw 1, throw 2, div, cell"},
		// Values alone
		{head + "out s0", "0 done, 1 done, 2 done, 3 done, 4 done, 5 done, 6 done, 7 done"},
		{head + "out s0; throw 4", "0 throw 4, 1 throw 4, 2 throw 4, 3 throw 4, 4 throw 4, 5 throw 4, 6 throw 4, 7 throw 4"},
		{head + "out 1; out (s0 & 1); out 1; out (1 / 0)", "101 div, 111 div"},
		{head + "out (s0 & 1); out 2; out 3", "023 done, 123 done"},
		{head + "out 2; out 3; out (s0 & 1)", "230 done, 231 done"},
		{head + "if (s0 & 1); out 1; out 2; else; out 2; out 1; end", "21 done, 12 done"},
		// their length alone
		{head + "if s0; out 0; end; if (1 < s0); out 0; end; if (2 < s0); out 0; end; throw 5", "throw 5, 0 throw 5, 00 throw 5, 000 throw 5"},
		{head + "if (2 < s0); out 0; end; out (1 / 0)", "div, 0 div"},
		{head + "out 1; out 2; if (s0 & 1); out 0; end", "12 done, 120 done"},
		{head + "out 1; if (s0 & 2); out 1; end", "1 done, 11 done"},
		{head + "if (s0 & 1); out 0; end; out 3; out 4", "34 done, 034 done"},
		{head + "if (s0 < 4); loop 4; out 7; end; else; loop 3; out 7; end; end", "7777 done, 777 done"},
		// End alone
		{head + "out 2; if (s0 & 1); throw 0; end", "2 done, 2 throw 0"},
		{head + "if (s0 & 1); throw 1; end; out (1 / 0)", "div, throw 1"},
		{head + "if (s0 & 1); throw 2; end; out m0[1]", "cell, throw 2"},
		{head + "out 6; out 5; if (s0 & 1); throw 1; end; t0 = (1 % 0)", "65 div, 65 throw 1"},
		// Code alone
		{head + "if (s0 & 1); throw 8; end; throw 9", "throw 9, throw 8"},
		{head + "if (s0 & 1); throw 1; end; throw 0", "throw 0, throw 1"},
		{head + "out 3; t0 = (1 / s0); m0[s0] = 1", "3 div, 3 cell"},
		{head + "m0[(s0 & 1)] = 1; out (1 / (s0 & 1))", "div, cell"},
		// alike, however they come about
		{head + "t0 = s0; if s0; throw 3; else; throw 3; end", "throw 3"},
		{head + "if (s0 & 1); out 1; else; out 1; end", "1 done"},
		{head + "if (s0 & 1); out 1; end; if (s0 & 2); out 1; end", "done, 1 done, 11 done"},
		{head + "try; if (s0 & 1); throw 1; end; out 4; catch 1; out 4; end", "4 done"},
		{head + "if (s0 & 1); t0 = m0[7]; else; m0[7] = 1; end", "cell"},
		{head + "out (1 / (s0 - s0))", "div"},
		{head + "m0[0] = s0; t0 = s0", "done"},
	}
	for _, c := range cases {
		p := ofText(t, c.text)
		if got := allSeen(impl.OutcomesOf(p, nil, []int64{3}, []bool{true})); got != c.want {
			t.Errorf("%s: OutcomesOf = %s; want %s", c.text, got, c.want)
		}
		if got := allSeen(impl.AllOutcomes(p)); got != c.want {
			t.Errorf("%s: AllOutcomes = %s; want %s", c.text, got, c.want)
		}
		count := int64(strings.Count(c.want, ",") + 1)
		if one, joint := impl.MostFor(p, 0), impl.MostJoint(p); one != count || joint != count {
			t.Errorf("%s: MostFor = %d, MostJoint = %d; want %d", c.text, one, joint, count)
		}
	}
}

func TestMostByHand(t *testing.T) {
	cases := []struct{ text, want string }{
		{aBranch, "2 2 / 2 / 2"},
		{bothOut, "2 3 / 6 / 6"},
		{masked, "4 / 4 / 4"},
		{noughts, "1 3 / 3 / 3"},
		{eachEnd, "6 / 6 / 6"},
		{"width 2; low 3; secret 3 0; temps 0; out l0; out (l0 & s0)", "4 / 4 / 9"},
		{"width 3; secret 3 1; secret 2 0; temps 0; out (s0 + s1); out (s0 / s1)", "4 3 / 12 / 12"},
		// another Secret decides
		{"width 2; secret 3 0; secret 1 0; temps 0; if s1; out s0; end", "4 2 / 5 / 5"},
		{"width 2; secret 1 0; secret 3 0; temps 0; if s0; out s1; end", "2 4 / 5 / 5"},
		{"width 2; secret 3 0; secret 1 0; temps 0; if s1; else; out s0; end", "4 2 / 5 / 5"},
		{"width 3; secret 2 0; secret 2 0; secret 2 0; temps 0; out ((s0 == s1) & (s1 == s2))", "2 2 2 / 2 / 2"},
		{"width 3; secret 1 0; secret 1 0; secret 1 0; temps 0; out ((s0 + s1) + s2)", "2 2 2 / 4 / 4"},
		{"width 3; secret 1 0; secret 1 0; secret 1 0; temps 0; if (s0 & s2); out s1; end", "2 2 2 / 3 / 3"},
		// a Low decides: the first one, the last one, one between
		{"width 3; low 7; secret 7 0; temps 0; if (l0 == 0); out s0; end", "8 / 8 / 9"},
		{"width 3; low 7; secret 7 0; temps 0; if (l0 == 7); out s0; end", "8 / 8 / 9"},
		{"width 3; low 7; secret 7 0; temps 0; if (l0 == 3); out s0; end", "8 / 8 / 9"},
		{"width 3; low 7; secret 7 0; temps 0; if (l0 == s0); throw 1; end", "2 / 2 / 2"},
		{"width 3; low 1; low 1; secret 3 0; temps 0; out (s0 >> (l0 + l1))", "4 / 4 / 4"},
		{"width 3; low 1; low 1; secret 3 0; temps 0; out (l0 + (l1 << 1)); out (s0 >> (l0 + l1))", "4 / 4 / 9"},
		// each Low tells another half of it
		{"width 2; low 1; secret 3 0; temps 0; out l0; out ((s0 >> l0) & 1)", "2 / 2 / 4"},
		// none of a kind
		{"width 2; low 3; temps 0; out l0", " / 1 / 4"},
		{"width 2; low 3; temps 0; out (l0 & 1)", " / 1 / 2"},
		{"width 2; low 0; temps 0", " / 1 / 1"},
		{"width 1; temps 0; out 1", " / 1 / 1"},
		{"width 1; temps 0", " / 1 / 1"},
		{"width 2; secret 3 0; temps 0", "1 / 1 / 1"},
		{"width 2; secret 0 0; temps 0; out s0", "1 / 1 / 1"},
		{"width 2; secret 0 0; secret 0 0; secret 0 0; temps 0; throw 1", "1 1 1 / 1 / 1"},
	}
	for _, c := range cases {
		p := ofText(t, c.text)
		var most []string
		for secret := range p.Secrets {
			most = append(most, strconv.FormatInt(impl.MostFor(p, int64(secret)), 10))
		}
		got := fmt.Sprintf("%s / %d / %d", strings.Join(most, " "), impl.MostJoint(p), len(impl.AllOutcomes(p)))
		if got != c.want {
			t.Errorf("%s: MostFor, MostJoint, AllOutcomes are %s; want %s", c.text, got, c.want)
		}
		checkCounts(t, p, 100)
	}
}

// telling puts out all inputs, one by one.
func telling(p impl.Prog) impl.Prog {
	p.Body = nil
	for n := range int64(len(p.Lows) + len(p.Secrets)) {
		p.Body = append(p.Body, told(variable(n)))
	}
	return p
}

func checkNumbers(t *testing.T, p impl.Prog, most []int64, joint int64, all int) {
	t.Helper()
	for secret, want := range most {
		if got := impl.MostFor(p, int64(secret)); got != want {
			t.Errorf("MostFor %d = %d; want %d of\n%s", secret, got, want, writtenProg(p))
		}
	}
	if got := impl.MostJoint(p); got != joint {
		t.Errorf("MostJoint = %d; want %d of\n%s", got, joint, writtenProg(p))
	}
	if got := len(impl.AllOutcomes(p)); got != all {
		t.Errorf("%d of AllOutcomes; want %d of\n%s", got, all, writtenProg(p))
	}
}

// TestAsManyBitsAsMayBe: all inputs are told apart where all is put out, and
// their numbers run together in no way.
func TestAsManyBitsAsMayBe(t *testing.T) {
	checkNumbers(t, telling(withInputs(nil, maxes(255, 3))), []int64{256, 4}, 1024, 1024)
	checkNumbers(t, telling(withInputs(nil, maxes(31, 31))), []int64{32, 32}, 1024, 1024)
	checkNumbers(t, telling(withInputs(nil, maxes(15, 7, 7))), []int64{16, 8, 8}, 1024, 1024)
	checkNumbers(t, telling(withInputs(maxes(255), maxes(3))), []int64{4}, 4, 1024)
	checkNumbers(t, telling(withInputs(maxes(3), maxes(255))), []int64{256}, 256, 1024)
	checkNumbers(t, telling(withInputs(maxes(15, 7, 7), nil)), nil, 1, 1024)
	checkNumbers(t, telling(withInputs(maxes(3, 3, 1), maxes(3, 3, 1))), []int64{4, 4, 2}, 32, 1024)
	checkNumbers(t, telling(fullest()), []int64{16, 1, 8}, 128, 1024)
	checkNumbers(t, withInputs(nil, maxes(255, 3)), []int64{1, 1}, 1, 1)
	sum := withInputs(nil, maxes(31, 31))
	sum.Body = []impl.Stmt{told(variable(0), variable(1), sign(impl.TmAdd))}
	checkNumbers(t, sum, []int64{32, 32}, 63, 63)
	for _, p := range []impl.Prog{telling(withInputs(nil, maxes(255, 3))), telling(fullest()), telling(withInputs(maxes(3, 3, 1), maxes(3, 3, 1))), telling(withInputs(maxes(128), maxes(2))), sum} {
		checkCounts(t, p, 5)
	}
}

// TestEachValueIsToldApart: one alone, and behind another, at each Width.
func TestEachValueIsToldApart(t *testing.T) {
	for width := int64(1); width <= 8; width++ {
		greatest := int64(1)<<width - 1
		p := impl.Prog{Width: width, Secrets: maxes(greatest), Body: []impl.Stmt{told(variable(0))}}
		checkNumbers(t, p, []int64{greatest + 1}, greatest+1, int(greatest+1))
		for n, o := range impl.OutcomesOf(p, nil, []int64{0}, []bool{true}) {
			if !sameOutcomes(o, impl.Outcome{Values: []int64{int64(n)}}) {
				t.Errorf("Outcome %d at Width %d is %v", n, width, o)
			}
		}
		p.Body = append(p.Body, told(variable(0), sign(impl.TmNot)), told(variable(0)))
		checkNumbers(t, p, []int64{greatest + 1}, greatest+1, int(greatest+1))
		checkCounts(t, p, 3)
	}
}

// TestManyValuesAreToldApart: the last one of as many as there may be.
func TestManyValuesAreToldApart(t *testing.T) {
	body := slices.Concat(loops(outs(3), 4, 4, 4), outs(20), []impl.Stmt{told(variable(0))})
	p := impl.Prog{Width: 2, Secrets: maxes(3), Body: body}
	list := impl.AllOutcomes(p)
	checkNumbers(t, p, []int64{4}, 4, 4)
	for n, o := range list {
		if len(o.Values) != 192+20+1 || o.Values[len(o.Values)-1] != int64(n) {
			t.Errorf("Outcome %d has %d Values: %v", n, len(o.Values), o)
		}
	}
	checkCounts(t, p, 4)
}

// TestCountsOfEachKind: none to three Lows and Secrets, each of a Max of 0, 1
// or 2, as far as there are bits, with Bodies that tell all, a sum, a trap.
func TestCountsOfEachKind(t *testing.T) {
	source := rand.New(rand.NewSource(81))
	for lows := range 4 {
		for secrets := range 4 {
			for range 12 {
				list := make([]int64, lows+secrets)
				for i := range list {
					list[i] = source.Int63n(3)
				}
				p := withInputs(maxes(list[:lows]...), maxes(list[lows:]...))
				if !impl.ProgOk(p) {
					continue
				}
				checkCounts(t, telling(p), 8)
				sum := []impl.Term{num(1)}
				for n := range list {
					sum = append(sum, variable(int64(n)), sign(impl.TmAdd))
				}
				p.Body = []impl.Stmt{told(sum...), asked(joined(sum, times(1, num(3)), times(1, sign(impl.TmEq)))...), told(num(1), num(0), sign(impl.TmDiv)), plain(impl.StEnd)}
				checkCounts(t, p, 8)
			}
		}
	}
}

// TestAMaxOfNoughtCountsOnce: free or not, it changes nothing.
func TestAMaxOfNoughtCountsOnce(t *testing.T) {
	for at := range 3 {
		list := slices.Insert([]int64{3, 2}, at, 0)
		p := telling(withInputs(maxes(list...), maxes(list...)))
		all := checkCounts(t, p, 20)
		for _, values := range all.inputs {
			lows, secrets := values[:3], values[3:]
			for _, free := range choices(3) {
				bound := slices.Clone(free)
				bound[at] = !bound[at]
				a, b := impl.OutcomesOf(p, lows, secrets, free), impl.OutcomesOf(p, lows, secrets, bound)
				if !slices.EqualFunc(a, b, sameOutcomes) {
					t.Errorf("with %v free %v, with %v free %v", free, a, bound, b)
				}
			}
		}
		if got := impl.MostFor(p, int64(at)); got != 1 {
			t.Errorf("MostFor a Max of 0 is %d", got)
		}
	}
}

func checkNoOutcomes(t *testing.T, name string, p impl.Prog, lows, secrets []int64, free []bool) {
	t.Helper()
	if got := impl.OutcomesOf(p, lows, secrets, free); len(got) != 0 {
		t.Errorf("%s: OutcomesOf %v and %v with %v free = %v; want nothing", name, lows, secrets, free, got)
	}
}

// TestHowManyAreFree: one too many, one too few, none, many.
func TestHowManyAreFree(t *testing.T) {
	for lows := range 4 {
		for secrets := range 4 {
			p := telling(withInputs(maxes(slices.Repeat([]int64{1}, lows)...), maxes(slices.Repeat([]int64{1}, secrets)...)))
			a, b := make([]int64, lows), make([]int64, secrets)
			for count := range 9 {
				for _, free := range [][]bool{make([]bool, count), allFree(count)} {
					if count != secrets {
						checkNoOutcomes(t, "another count", p, a, b, free)
						continue
					}
					want := 1
					if count > 0 && free[0] {
						want = 1 << secrets
					}
					if got := impl.OutcomesOf(p, a, b, free); len(got) != want {
						t.Errorf("%d Outcomes with %v free; want %d", len(got), free, want)
					}
				}
			}
			checkNoOutcomes(t, "many", p, a, b, allFree(5000))
			if secrets > 0 {
				checkNoOutcomes(t, "none", p, a, b, nil)
				checkNoOutcomes(t, "none", p, a, b, []bool{})
			}
		}
	}
	for _, none := range [][]bool{nil, {}} {
		if got := impl.OutcomesOf(telling(withInputs(maxes(3), nil)), []int64{2}, nil, none); len(got) != 1 || got[0].Values[0] != 2 {
			t.Errorf("with no Secrets OutcomesOf is %v", got)
		}
	}
}

// TestOutcomesOfValuesThatMayNotBe: at each place, a Secret that is free, too.
func TestOutcomesOfValuesThatMayNotBe(t *testing.T) {
	for _, p := range []impl.Prog{telling(roomy()), telling(fullest()), telling(withInputs(maxes(0), maxes(0))), telling(withInputs(nil, maxes(255, 2))), withInputs(maxes(1, 2, 3), maxes(1, 2, 1))} {
		lows, secrets := lastsOf(p.Lows), lastsOf(p.Secrets)
		for _, list := range [][]int64{lows, secrets} {
			for at, most := range list {
				for _, n := range append([]int64{-most - 1, -2, -1, most + 1, most + 2, 2*most + 1}, far...) {
					list[at] = n
					for _, free := range choices(len(secrets)) {
						if n < 0 || n > most {
							checkNoOutcomes(t, fmt.Sprintf("%d where %d is the last", n, most), p, lows, secrets, free)
						}
					}
				}
				list[at] = most
			}
		}
		if got := impl.OutcomesOf(p, lows, secrets, allFree(len(secrets))); len(got) == 0 {
			t.Errorf("there are no Outcomes of the last input")
		}
	}
}

// TestOutcomesOfHowManyValues: one too many or too few of a kind, though the
// others make up for it, and though free goes with them.
func TestOutcomesOfHowManyValues(t *testing.T) {
	for lows := range 4 {
		for secrets := range 4 {
			p := telling(withInputs(maxes(slices.Repeat([]int64{1}, lows)...), maxes(slices.Repeat([]int64{1}, secrets)...)))
			for a := range 8 {
				for b := range 8 {
					if a != lows || b != secrets {
						checkNoOutcomes(t, "another count", p, make([]int64, a), make([]int64, b), allFree(b))
						checkNoOutcomes(t, "another count", p, make([]int64, a), make([]int64, b), allFree(secrets))
						checkNoOutcomes(t, "another count", p, make([]int64, a), make([]int64, b), make([]bool, b))
					}
				}
			}
			many := make([]int64, 5000)
			checkNoOutcomes(t, "many Lows", p, many, make([]int64, secrets), allFree(secrets))
			checkNoOutcomes(t, "many Secrets", p, make([]int64, lows), many, allFree(5000))
			checkNoOutcomes(t, "many Secrets", p, make([]int64, lows), many, allFree(secrets))
		}
	}
}

// checkUncounted: nothing is told of a Prog that is not right.
func checkUncounted(t *testing.T, name string, p impl.Prog) {
	t.Helper()
	if impl.ProgOk(p) {
		t.Errorf("%s is right", name)
	}
	lows, secrets := make([]int64, len(p.Lows)), make([]int64, len(p.Secrets))
	checkNoOutcomes(t, name, p, lows, secrets, make([]bool, len(secrets)))
	checkNoOutcomes(t, name, p, lows, secrets, allFree(len(secrets)))
	checkNoOutcomes(t, name, p, nil, nil, nil)
	checkNoOutcomes(t, name, p, []int64{1}, []int64{1}, []bool{true})
	checkNoOutcomes(t, name, p, []int64{-1}, []int64{2}, []bool{false, true})
	for _, secret := range append([]int64{0, 1, 2, 3, 4}, noSecrets...) {
		if got := impl.MostFor(p, secret); got != -1 {
			t.Errorf("%s: MostFor %d = %d; want -1", name, secret, got)
		}
	}
	if got := impl.MostJoint(p); got != -1 {
		t.Errorf("%s: MostJoint = %d; want -1", name, got)
	}
	if got := impl.AllOutcomes(p); len(got) != 0 {
		t.Errorf("%s: AllOutcomes = %v; want nothing", name, got)
	}
}

func TestCountsOfProgramsThatAreNotRight(t *testing.T) {
	for _, f := range allFaults() {
		checkUncounted(t, f.name, broken(f))
		for _, g := range allFaults() {
			checkUncounted(t, f.name+" and "+g.name, broken(f, g))
		}
	}
	checkCounts(t, broken(), 100)
	checkUncounted(t, "the zero Prog", impl.Prog{})
	for _, width := range append([]int64{-8, -1, 0, 9, 62, 63, 64, 65}, far...) {
		checkUncounted(t, fmt.Sprintf("Width %d", width), impl.Prog{Width: width, Secrets: maxes(1), Body: outs(1)})
	}
	for _, most := range append([]int64{-2, -1, 256, 257}, far[3:]...) {
		checkUncounted(t, fmt.Sprintf("a Low with a Max of %d", most), withInputs(maxes(1, most), maxes(1)))
		checkUncounted(t, fmt.Sprintf("a Secret with a Max of %d", most), withInputs(maxes(1), maxes(most, 1)))
	}
	checkUncounted(t, "eleven bits of Lows", withInputs(maxes(31, 31, 1), nil))
	checkUncounted(t, "eleven bits of Secrets", withInputs(nil, maxes(32, 31)))
	checkUncounted(t, "many Secrets", withInputs(nil, make([]impl.Input, 5000)))
	checkUncounted(t, "an StEnd too few", roomy(asked(variable(2))))
}

// grownCounts makes a right Prog that tells something of its inputs at first,
// most often under an StIf, and then does what it does.
func grownCounts(source *rand.Rand) impl.Prog {
	for {
		p := lively(source, grownProg(source))
		inputs := int64(len(p.Lows) + len(p.Secrets))
		if inputs > 0 {
			pick := func() impl.Term { return variable(source.Int63n(inputs)) }
			for range 1 + source.Intn(2) {
				first := told(pick(), pick(), sign(impl.TmAdd+source.Int63n(10)))
				if source.Intn(3) > 0 {
					p.Body = slices.Concat(wrapped(asked(pick(), num(1), sign(impl.TmXor)), first), p.Body)
				} else {
					p.Body = slices.Insert(p.Body, 0, first)
				}
			}
		}
		if impl.ProgOk(p) && (len(p.Secrets) > 1 || source.Intn(3) == 0) {
			return p
		}
	}
}

func TestCountsOfGrownPrograms(t *testing.T) {
	source := rand.New(rand.NewSource(82))
	several, summed, ends := 0, 0, map[int64]int{}
	for range 500 {
		all := checkCounts(t, grownCounts(source), 4)
		joint := impl.MostJoint(all.p)
		several += int(oneWhere(joint > 2))
		summed += int(oneWhere(len(impl.AllOutcomes(all.p)) > int(joint)))
		for _, o := range impl.AllOutcomes(all.p) {
			ends[o.End]++
		}
	}
	if several < 100 || summed < 100 || ends[impl.EnDone] < 200 || ends[impl.EnThrow] < 100 || ends[impl.EnTrap] < 100 {
		t.Errorf("%d programs tell more than two, %d more by the Lows, %v ends: too few to tell", several, summed, ends)
	}
}

// checkMoreFree holds each choice of free against those with one more Secret,
// and answers how often there are more Outcomes.
func checkMoreFree(t *testing.T, p impl.Prog, list, lows, secrets []int64) int {
	t.Helper()
	grew := 0
	lists := map[string][]impl.Outcome{}
	for _, free := range choices(len(secrets)) {
		lists[fmt.Sprint(free)] = impl.OutcomesOf(p, lows, secrets, free)
	}
	for _, free := range choices(len(secrets)) {
		few := lists[fmt.Sprint(free)]
		for at := range free {
			with := slices.Clone(free)
			with[at] = true
			many := lists[fmt.Sprint(with)]
			if len(many) < len(few) || !holdsAll(many, few) {
				t.Errorf("%v and %v: with %v free %v, with %v free %v, of\n%s", lows, secrets, free, few, with, many, writtenProg(p))
			}
			grew += int(oneWhere(len(many) > len(few)))
		}
		checkAtMost(t, p, list, free, int64(len(few)))
	}
	return grew
}

func holdsAll(many, few []impl.Outcome) bool {
	for _, o := range few {
		if !slices.ContainsFunc(many, func(other impl.Outcome) bool { return impl.LikeOutcomes(o, other) }) {
			return false
		}
	}
	return true
}

// mosts are MostFor each Secret and, behind them, MostJoint.
func mosts(p impl.Prog) []int64 {
	var list []int64
	for secret := range p.Secrets {
		list = append(list, impl.MostFor(p, int64(secret)))
	}
	return append(list, impl.MostJoint(p))
}

// checkAtMost: no choice of free has more Outcomes than MostJoint tells, none
// with one Secret free more than MostFor it, and with none free there is one.
func checkAtMost(t *testing.T, p impl.Prog, list []int64, free []bool, count int64) {
	t.Helper()
	most := list[len(free)]
	at := slices.Index(free, true)
	switch {
	case at < 0:
		most = 1
	case !slices.Contains(free[at+1:], true):
		most = list[at]
	}
	if count < 1 || count > most {
		t.Errorf("%d Outcomes with %v free; at most %d of\n%s", count, free, most, writtenProg(p))
	}
}

// TestWhoeverIsFreeMakesNoFewer is the promise, over many programs.
func TestWhoeverIsFreeMakesNoFewer(t *testing.T) {
	source := rand.New(rand.NewSource(83))
	grew, less := 0, 0
	for range 400 {
		p := grownCounts(source)
		list := mosts(p)
		for range 3 {
			grew += checkMoreFree(t, p, list, grownValues(source, p.Lows), grownValues(source, p.Secrets))
		}
		joint := list[len(p.Secrets)]
		if all := int64(len(impl.AllOutcomes(p))); joint < 1 || joint > all || all > impl.InputsIn(p) {
			t.Errorf("MostJoint is %d, there are %d Outcomes of %d inputs, of\n%s", joint, all, impl.InputsIn(p), writtenProg(p))
		}
		for secret, input := range p.Secrets {
			most := list[secret]
			if most < 1 || most > joint || most > input.Max+1 {
				t.Errorf("MostFor %d is %d of %d, MostJoint is %d, of\n%s", secret, most, input.Max+1, joint, writtenProg(p))
			}
			less += int(oneWhere(most < joint))
		}
	}
	if grew < 300 || less < 100 {
		t.Errorf("%d times more, %d times less than MostJoint: too few to tell", grew, less)
	}
}

// TestFreeSecretsDoNotMatter: what is given of a Secret that is free is not
// asked for.
func TestFreeSecretsDoNotMatter(t *testing.T) {
	source := rand.New(rand.NewSource(84))
	for range 200 {
		p := grownCounts(source)
		lows := grownValues(source, p.Lows)
		a, b := grownValues(source, p.Secrets), grownValues(source, p.Secrets)
		for _, free := range choices(len(p.Secrets)) {
			other := slices.Clone(a)
			for i := range other {
				if free[i] {
					other[i] = b[i]
				}
			}
			first, second := impl.OutcomesOf(p, lows, a, free), impl.OutcomesOf(p, lows, other, free)
			if !slices.EqualFunc(first, second, sameOutcomes) {
				t.Errorf("with %v free, of %v %v, of %v %v, of\n%s", free, a, first, other, second, writtenProg(p))
			}
		}
	}
}

func valuesOfAll(list []impl.Outcome) [][]int64 {
	var lists [][]int64
	for _, o := range list {
		lists = append(lists, o.Values)
	}
	return lists
}

func clonedOutcomes(list []impl.Outcome) []impl.Outcome {
	kept := slices.Clone(list)
	for i, o := range kept {
		kept[i].Values = slices.Clone(o.Values)
	}
	return kept
}

// spoilOutcomes writes over all the memory of an answer.
func spoilOutcomes(list []impl.Outcome) {
	for _, values := range valuesOfAll(list[:cap(list)]) {
		spoil(values, spoiledMark)
	}
	spoil(list, impl.Outcome{Values: []int64{spoiledMark}, End: spoiledMark, Code: spoiledMark})
}

// askAllOfCounts spoils each answer and asks again.
func askAllOfCounts(t *testing.T, p impl.Prog, lows, secrets []int64, free []bool) {
	t.Helper()
	joint, most := impl.MostJoint(p), impl.MostFor(p, 0)
	for name, ask := range map[string]func() []impl.Outcome{
		"OutcomesOf":  func() []impl.Outcome { return impl.OutcomesOf(p, lows, secrets, free) },
		"AllOutcomes": func() []impl.Outcome { return impl.AllOutcomes(p) },
	} {
		first := ask()
		kept := clonedOutcomes(first)
		if len(first) < 50 {
			checkApart(t, name, spoiledMark, valuesOfAll(first)...)
		}
		spoilOutcomes(first)
		if again := ask(); !slices.EqualFunc(again, kept, sameOutcomes) {
			t.Errorf("%s is %v, then %v: it is kept from call to call, or a part of an argument", name, kept, again)
		}
	}
	if impl.MostJoint(p) != joint || impl.MostFor(p, 0) != most {
		t.Errorf("MostJoint or MostFor tells something else when asked again")
	}
}

func checkCountsStay(t *testing.T, name string, p impl.Prog, lows, secrets []int64, free []bool) {
	t.Helper()
	for _, mark := range []bool{true, false} {
		a, b, c := argumentOf(lows), argumentOf(secrets), argumentWith(free, mark)
		checkStays(t, name, p, func(given impl.Prog) { askAllOfCounts(t, given, a.list, b.list, c.list) })
		if !a.untouched() || !b.untouched() || !c.untouched() {
			t.Errorf("%s: %v, %v and %v were %v, %v and %v", name, a.list[:cap(a.list)], b.list[:cap(b.list)], c.list[:cap(c.list)], a.kept, b.kept, c.kept)
		}
	}
}

func TestCountAnswersAreNewAndArgumentsStay(t *testing.T) {
	source := rand.New(rand.NewSource(85))
	for range 60 {
		p := grownCounts(source)
		lows, secrets := grownValues(source, p.Lows), grownValues(source, p.Secrets)
		for _, free := range choices(len(secrets)) {
			checkCountsStay(t, "a right Prog", p, lows, secrets, free)
		}
		checkCountsStay(t, "a free too many", p, lows, secrets, make([]bool, len(secrets)+1))
		checkCountsStay(t, "a Low too many", p, append(lows, 0), secrets, make([]bool, len(secrets)))
	}
	for _, f := range allFaults() {
		p := broken(f)
		checkCountsStay(t, f.name, p, make([]int64, len(p.Lows)), make([]int64, len(p.Secrets)), allFree(len(p.Secrets)))
	}
	// lists that are alike, but for what comes behind
	alike := "width 3; secret 7 0; temps 0; out 1; out 2; out 3; out 4; if s0; out 5; end; if (1 < s0); out 6; end; if (2 < s0); throw s0; end"
	checkCountsStay(t, "alike at first", ofText(t, strings.Replace(alike, "throw s0", "throw 3", 1)), nil, []int64{5}, []bool{true})
}

// TestCountsTellTheSameAgain, whatever else is asked in between.
func TestCountsTellTheSameAgain(t *testing.T) {
	p, q := ofText(t, aBranch), ofText(t, bothOut)
	for range 50 {
		if got := allSeen(impl.OutcomesOf(p, []int64{0}, []int64{0, 1}, []bool{true, true})); got != "1 done, 0 done" {
			t.Errorf("OutcomesOf is %s", got)
		}
		if got := allSeen(impl.AllOutcomes(q)); got != "00 done, 10 done, 01 done, 11 done, 02 done, 12 done" {
			t.Errorf("AllOutcomes is %s", got)
		}
		if impl.MostFor(p, 0) != 2 || impl.MostFor(q, 1) != 3 || impl.MostJoint(p) != 2 || impl.MostJoint(q) != 6 {
			t.Errorf("MostFor or MostJoint tells something else")
		}
	}
}
