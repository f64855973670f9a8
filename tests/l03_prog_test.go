package tests

import (
	"fmt"
	"math"
	"math/rand"
	"reflect"
	"slices"
	"testing"

	"loop.example/g00697/impl"
)

// far are numbers that nothing in a Prog may be.
var far = []int64{100, 255, 256, -256, 1 << 32, -1 << 32, 1<<32 + 1, math.MaxInt64, math.MaxInt64 - 1, math.MinInt64, math.MinInt64 + 1}

func one() []impl.Term { return []impl.Term{num(1)} }

func plain(op int64) impl.Stmt             { return impl.Stmt{Op: op} }
func numbered(op, n int64) impl.Stmt       { return impl.Stmt{Op: op, N: n} }
func told(e ...impl.Term) impl.Stmt        { return impl.Stmt{Op: impl.StOut, Exp: e} }
func asked(e ...impl.Term) impl.Stmt       { return impl.Stmt{Op: impl.StIf, Exp: e} }
func set(n int64, e []impl.Term) impl.Stmt { return impl.Stmt{Op: impl.StSet, N: n, Exp: e} }

func put(n int64, at, e []impl.Term) impl.Stmt {
	return impl.Stmt{Op: impl.StPut, N: n, At: at, Exp: e}
}

func wrapped(first impl.Stmt, body ...impl.Stmt) []impl.Stmt {
	return slices.Concat([]impl.Stmt{first}, body, []impl.Stmt{plain(impl.StEnd)})
}

func outs(count int) []impl.Stmt { return slices.Repeat([]impl.Stmt{told(num(0))}, count) }

// roomy is right and has two of each kind: Lows 0 and 1, Secrets 2 and 3,
// Temps 4 and 5, arrays 0 and 1.
func roomy(body ...impl.Stmt) impl.Prog {
	return impl.Prog{
		Width: 3, Lows: []impl.Input{{Max: 7}, {Max: 0}}, Secrets: []impl.Input{{Max: 1, Budget: 99}, {Max: 5, Budget: 0}},
		Temps: 2, Arrays: []int64{1, 6}, Body: body,
	}
}

// checkCode holds all that the chapter says of one Prog against its code.
func checkCode(t *testing.T, name string, p impl.Prog, want int64) {
	t.Helper()
	if got := impl.CodeOf(p); got != want {
		t.Errorf("%s: CodeOf = %d, want %d", name, got, want)
	}
	if got := impl.ProgOk(p); got != (want == impl.PgOk) {
		t.Errorf("%s: ProgOk = %v where the code is %d", name, got, want)
	}
	if got := impl.StepsOf(p); (got == -1) != (want != impl.PgOk) || got < -1 || got > 400 {
		t.Errorf("%s: StepsOf = %d where the code is %d", name, got, want)
	}
}

func checkSteps(t *testing.T, name string, p impl.Prog, want int64) {
	t.Helper()
	checkCode(t, name, p, impl.PgOk)
	if got := impl.StepsOf(p); got != want {
		t.Errorf("%s: StepsOf = %d, want %d", name, got, want)
	}
}

// codeUnless is the code, or PgOk where it is as it should be.
func codeUnless(right bool, code int64) int64 {
	if right {
		return impl.PgOk
	}
	return code
}

func TestOrdinaryPrograms(t *testing.T) {
	checkSteps(t, "the least one", impl.Prog{Width: 1}, 0)
	checkSteps(t, "no Body", roomy(), 0)
	checkSteps(t, "one output", roomy(told(variable(2))), 1)
	checkSteps(t, "each kind once", roomy(
		set(4, []impl.Term{variable(0), variable(3), sign(impl.TmAdd)}),
		put(1, []impl.Term{variable(4)}, []impl.Term{variable(1), cell(0)}),
		asked(variable(2)), plain(impl.StElse), told(num(7)), plain(impl.StEnd),
		numbered(impl.StLoop, 2), told(variable(4), cell(1)), plain(impl.StEnd),
		plain(impl.StTry), numbered(impl.StThrow, 3), numbered(impl.StCatch, 3), plain(impl.StEnd),
	), 1+1+2+5+2)
	checkSteps(t, "a secret that picks a throw", roomy(
		plain(impl.StTry),
		asked(variable(2), num(1), sign(impl.TmEq)), numbered(impl.StThrow, 9), plain(impl.StEnd),
		told(num(2)), numbered(impl.StCatch, 9), told(num(3)), plain(impl.StEnd), told(num(4)),
	), 1+2+1+1+1)
}

func TestWidths(t *testing.T) {
	for width := int64(-2); width <= 11; width++ {
		code := codeUnless(width >= 1 && width <= 8, impl.PgWidth)
		checkCode(t, fmt.Sprintf("Width %d", width), impl.Prog{Width: width}, code)
	}
	for _, width := range append(far, 63, 64, 65) {
		checkCode(t, fmt.Sprintf("Width %d", width), impl.Prog{Width: width}, impl.PgWidth)
	}
}

// TestValuesOfEachWidth asks of a Low, a Secret and a number in an expression.
func TestValuesOfEachWidth(t *testing.T) {
	for width := int64(1); width <= 8; width++ {
		greatest := int64(1)<<width - 1
		for _, n := range append([]int64{math.MinInt64, -1, 0, 1, greatest - 1, greatest, greatest + 1, 2*greatest + 1}, far[1:]...) {
			right := n >= 0 && n <= greatest
			low := impl.Prog{Width: width, Lows: []impl.Input{{Max: n}}}
			checkCode(t, fmt.Sprintf("a Low of %d at Width %d", n, width), low, codeUnless(right, impl.PgInput))
			secret := impl.Prog{Width: width, Secrets: []impl.Input{{Max: n}}}
			checkCode(t, fmt.Sprintf("a Secret of %d at Width %d", n, width), secret, codeUnless(right, impl.PgInput))
			number := impl.Prog{Width: width, Body: []impl.Stmt{told(num(n))}}
			checkCode(t, fmt.Sprintf("the number %d at Width %d", n, width), number, codeUnless(right, impl.PgStmt))
		}
	}
}

func TestHowManyInputs(t *testing.T) {
	for lows := range 7 {
		for secrets := range 7 {
			p := impl.Prog{Width: 1, Lows: make([]impl.Input, lows), Secrets: make([]impl.Input, secrets)}
			checkCode(t, fmt.Sprintf("%d Lows and %d Secrets", lows, secrets), p, codeUnless(lows <= 3 && secrets <= 3, impl.PgInput))
		}
	}
}

func TestEachInputIsLookedAt(t *testing.T) {
	for at := range 3 {
		for _, wrong := range []impl.Input{{Max: 4}, {Max: -1}, {Budget: -1}, {Budget: 100}} {
			p := impl.Prog{Width: 2, Lows: make([]impl.Input, 3), Secrets: make([]impl.Input, 3)}
			checkCode(t, "six inputs", p, impl.PgOk)
			p.Lows[at] = wrong
			checkCode(t, fmt.Sprintf("Low %d is %v", at, wrong), p, impl.PgInput)
			p.Lows[at], p.Secrets[at] = impl.Input{}, wrong
			checkCode(t, fmt.Sprintf("Secret %d is %v", at, wrong), p, impl.PgInput)
		}
	}
}

func TestBudgets(t *testing.T) {
	for _, budget := range append([]int64{-100, -99, -1, 0, 1, 2, 50, 98, 99}, far...) {
		low := impl.Prog{Width: 2, Lows: []impl.Input{{Max: 1, Budget: budget}}}
		checkCode(t, fmt.Sprintf("a Low's Budget of %d", budget), low, codeUnless(budget == 0, impl.PgInput))
		secret := impl.Prog{Width: 2, Secrets: []impl.Input{{Max: 1, Budget: budget}}}
		checkCode(t, fmt.Sprintf("a Secret's Budget of %d", budget), secret, codeUnless(budget >= 0 && budget <= 99, impl.PgInput))
	}
}

func maxes(list ...int64) []impl.Input {
	var inputs []impl.Input
	for _, most := range list {
		inputs = append(inputs, impl.Input{Max: most})
	}
	return inputs
}

func TestBitsOfMaxes(t *testing.T) {
	cases := []struct {
		lows, secrets []impl.Input
		right         bool
	}{
		{maxes(255), maxes(3), true}, {maxes(255), maxes(2), true}, {maxes(255), maxes(4), false}, {maxes(255), maxes(7), false},
		{maxes(128), maxes(2), true}, {maxes(127), maxes(7), true}, {maxes(127), maxes(8), false}, {maxes(128), maxes(4), false},
		{maxes(31, 31), nil, true}, {maxes(31, 32), nil, false}, {nil, maxes(31, 31), true}, {nil, maxes(16, 16), true}, {nil, maxes(63, 16), false},
		{maxes(255, 1, 1), nil, true}, {maxes(255, 1, 1), maxes(0, 0, 0), true}, {maxes(255, 1, 1), maxes(0, 0, 1), false},
		{maxes(0, 0, 0), maxes(1, 255, 1), true}, {maxes(0, 1, 0), maxes(1, 255, 1), false},
		{maxes(3, 3, 1), maxes(3, 1, 3), true}, {maxes(3, 3, 1), maxes(3, 2, 3), false}, {maxes(3, 3, 1), maxes(3, 1, 1), true}, {maxes(3, 3, 1), maxes(2, 1, 1), true},
		{maxes(255, 255, 255), maxes(255, 255, 255), false}, {maxes(0, 0, 0), maxes(0, 0, 0), true},
	}
	for _, c := range cases {
		p := impl.Prog{Width: 8, Lows: c.lows, Secrets: c.secrets}
		checkCode(t, fmt.Sprintf("Lows %v, Secrets %v", c.lows, c.secrets), p, codeUnless(c.right, impl.PgInput))
	}
}

// TestBitsOfEachPairOfMaxes counts bits by halving.
func TestBitsOfEachPairOfMaxes(t *testing.T) {
	for low := int64(0); low <= 255; low++ {
		for secret := int64(0); secret <= 255; secret++ {
			bits := 0
			for n := low; n > 0; n /= 2 {
				bits++
			}
			for n := secret; n > 0; n /= 2 {
				bits++
			}
			p := impl.Prog{Width: 8, Lows: maxes(low), Secrets: maxes(secret)}
			if got := impl.CodeOf(p); got != codeUnless(bits <= 10, impl.PgInput) {
				t.Errorf("CodeOf with a Low of %d and a Secret of %d is %d", low, secret, got)
			}
		}
	}
}

func TestRoom(t *testing.T) {
	for _, temps := range append([]int64{-7, -6, -1, 0, 1, 5, 6, 7, 8}, far...) {
		p := impl.Prog{Width: 1, Temps: temps}
		checkCode(t, fmt.Sprintf("%d Temps", temps), p, codeUnless(temps >= 0 && temps <= 6, impl.PgRoom))
	}
	for count := range 6 {
		p := impl.Prog{Width: 1, Arrays: slices.Repeat([]int64{1}, count)}
		checkCode(t, fmt.Sprintf("%d Arrays", count), p, codeUnless(count <= 2, impl.PgRoom))
	}
	for _, size := range append([]int64{-6, -1, 0, 1, 2, 5, 6, 7, 8}, far...) {
		code := codeUnless(size >= 1 && size <= 6, impl.PgRoom)
		for _, arrays := range [][]int64{{size}, {size, 1}, {6, size}, {size, size}} {
			checkCode(t, fmt.Sprintf("Arrays %v", arrays), impl.Prog{Width: 1, Arrays: arrays}, code)
		}
	}
	for _, count := range []int{0, 1, 39, 40, 41, 42, 80, 5000} {
		p := impl.Prog{Width: 1, Body: outs(count)}
		checkCode(t, fmt.Sprintf("%d Stmts", count), p, codeUnless(count <= 40, impl.PgRoom))
	}
}

// closedBody has the Stmt in a place where it is well nested.
func closedBody(s impl.Stmt) []impl.Stmt {
	end, catch := plain(impl.StEnd), numbered(impl.StCatch, 1)
	switch s.Op {
	case impl.StIf, impl.StLoop:
		return []impl.Stmt{s, end}
	case impl.StElse:
		return []impl.Stmt{asked(num(1)), s, end}
	case impl.StEnd:
		return []impl.Stmt{numbered(impl.StLoop, 1), s}
	case impl.StTry:
		return []impl.Stmt{s, catch, end}
	case impl.StCatch:
		return []impl.Stmt{plain(impl.StTry), s, end}
	}
	return []impl.Stmt{s}
}

// stmtFields is the document's table, kept apart from the program: from which
// N to which in roomy, and whether there is an At and an Exp.
var stmtFields = []struct {
	least, most int64
	at, exp     bool
}{
	{4, 5, false, true}, {0, 1, true, true}, {0, 0, false, true}, {0, 0, false, false}, {0, 0, false, false},
	{0, 4, false, false}, {0, 0, false, true}, {0, 9, false, false}, {0, 0, false, false}, {0, 9, false, false},
}

func TestFieldsOfEachStmt(t *testing.T) {
	exps := [][]impl.Term{nil, {}, one()}
	for op, fields := range stmtFields {
		for _, n := range append([]int64{-2, -1, 0, 1, 2, 3, 4, 5, 6, 7, 8, 9, 10, 11}, far...) {
			for _, at := range exps {
				for _, exp := range exps {
					s := impl.Stmt{Op: int64(op), N: n, At: at, Exp: exp}
					right := n >= fields.least && n <= fields.most && (len(at) > 0) == fields.at && (len(exp) > 0) == fields.exp
					checkCode(t, fmt.Sprintf("%v", s), roomy(closedBody(s)...), codeUnless(right, impl.PgStmt))
				}
			}
		}
	}
}

func TestOpsThatThereAreNot(t *testing.T) {
	for _, op := range append([]int64{-10, -2, -1, 10, 11, 12, 13, 20}, far...) {
		for _, s := range []impl.Stmt{plain(op), numbered(op, 4), {Op: op, Exp: one()}, {Op: op, At: one(), Exp: one()}} {
			checkCode(t, fmt.Sprintf("%v alone", s), roomy(s), impl.PgStmt)
			checkCode(t, fmt.Sprintf("%v behind", s), roomy(told(num(1)), s), impl.PgStmt)
			checkCode(t, fmt.Sprintf("%v within", s), roomy(wrapped(asked(num(1)), s)...), impl.PgStmt)
		}
	}
}

// TestTempsAreSet goes through all shapes of Prog: only a Temp may be set, and
// each variable, a Temp or not, may be read.
func TestTempsAreSet(t *testing.T) {
	for lows := range int64(4) {
		for secrets := range int64(4) {
			for temps := range int64(7) {
				p := impl.Prog{Width: 1, Lows: make([]impl.Input, lows), Secrets: make([]impl.Input, secrets), Temps: temps}
				for n := int64(-1); n <= 14; n++ {
					name := fmt.Sprintf("%d Lows, %d Secrets, %d Temps: variable %d", lows, secrets, temps, n)
					isTemp := n >= lows+secrets && n < lows+secrets+temps
					p.Body = []impl.Stmt{set(n, one())}
					checkCode(t, name+" set", p, codeUnless(isTemp, impl.PgStmt))
					p.Body = []impl.Stmt{told(variable(n))}
					checkCode(t, name+" told", p, codeUnless(n >= 0 && n < lows+secrets+temps, impl.PgStmt))
				}
			}
		}
	}
}

func TestArraysArePut(t *testing.T) {
	for count := range 3 {
		p := impl.Prog{Width: 1, Arrays: slices.Repeat([]int64{6}, count)}
		for n := int64(-1); n <= 6; n++ {
			code := codeUnless(n >= 0 && n < int64(count), impl.PgStmt)
			p.Body = []impl.Stmt{put(n, one(), one())}
			checkCode(t, fmt.Sprintf("%d Arrays: array %d put", count, n), p, code)
			p.Body = []impl.Stmt{told(num(1), cell(n))}
			checkCode(t, fmt.Sprintf("%d Arrays: array %d told", count, n), p, code)
		}
	}
}

// holders has the expression at each place of a Stmt where there may be one.
func holders(e []impl.Term) []impl.Stmt {
	return []impl.Stmt{set(4, e), put(1, e, one()), put(1, one(), e), asked(e...), told(e...)}
}

func checkExpression(t *testing.T, e []impl.Term, right bool) {
	t.Helper()
	for _, s := range holders(e) {
		name := fmt.Sprintf("%d Terms %v in Stmt %d", len(e), brief(e), s.Op)
		checkCode(t, name, roomy(closedBody(s)...), codeUnless(right, impl.PgStmt))
	}
}

// mayBeWritten reads the definition: what stands in the Body of roomy.
func mayBeWritten(e []impl.Term) bool {
	if len(e) > 40 || !isExpression(e) {
		return false
	}
	most := []int64{7, 5, 1}
	for _, term := range e {
		if term.Op <= impl.TmCell && term.N > most[term.Op] || term.Op == impl.TmIf {
			return false
		}
	}
	return true
}

func TestExpressionsInStmts(t *testing.T) {
	add := sign(impl.TmAdd)
	right := [][]impl.Term{
		{num(0)}, {num(7)}, {variable(0)}, {variable(5)}, {variable(0), cell(0)}, {num(7), cell(1)},
		joined(times(1, num(7)), times(39, sign(impl.TmNot))),
		joined(times(1, variable(5)), times(19, num(1), add), times(1, cell(1))),
		joined(times(20, num(1)), times(19, add), times(1, cell(0))),
	}
	for op := int64(impl.TmNot); op < impl.TmIf; op++ {
		right = append(right, single(sign(op)))
	}
	wrong := [][]impl.Term{
		{num(8)}, {num(-1)}, {num(255)}, {variable(6)}, {variable(-1)}, {variable(255)}, {num(0), cell(2)}, {num(0), cell(-1)}, {num(0), cell(255)},
		{num(8), sign(impl.TmNot)}, {num(1), num(8), add}, {num(8), num(1), add}, {variable(6), num(1), add}, {num(8), cell(0)}, {num(0), cell(2), cell(0)},
		single(sign(impl.TmIf)), append(single(sign(impl.TmIf)), sign(impl.TmNot)), joined(times(1, num(1)), single(sign(impl.TmIf)), times(1, add)),
		joined(times(1, num(7)), times(40, sign(impl.TmNot))),
		joined(times(1, variable(5)), times(20, num(1), add)),
		joined(times(21, num(1)), times(20, add)),
		{sign(impl.TmNot)}, {num(1), num(1)}, {num(1), add}, {add, num(1), num(1)}, {sign(18)}, {sign(-1)}, {num(1), {Op: impl.TmNot, N: 1}},
	}
	for _, e := range right {
		checkExpression(t, e, true)
	}
	for _, e := range wrong {
		checkExpression(t, e, false)
	}
	checkExpression(t, nil, false)
	for _, e := range slices.Concat(goodExpressions(), badExpressions()) {
		checkExpression(t, e, mayBeWritten(e))
	}
}

// nestOps are the Ops that matter to nesting, and one that does not.
var nestOps = []impl.Stmt{
	asked(num(1)), plain(impl.StElse), plain(impl.StEnd), numbered(impl.StLoop, 3), plain(impl.StTry), numbered(impl.StCatch, 2), told(num(1)),
}

// block is what a reader from the top down makes of the Stmt at a place.
type block struct {
	second, end, steps int64
}

// pastTheEnd is the Op of no Stmt that the tests write down.
const pastTheEnd = -1000

func opAt(body []impl.Stmt, at int64) int64 {
	if at >= int64(len(body)) {
		return pastTheEnd
	}
	return body[at].Op
}

// readBlock reads the Stmt at a place, and all of its bodies; false where it
// is none, or is not well nested.
func readBlock(body []impl.Stmt, at int64) (block, bool) {
	b := block{second: -1, end: at, steps: 1}
	first, other := int64(0), int64(0)
	switch op := opAt(body, at); op {
	case impl.StIf, impl.StTry:
		b.end, first = readBody(body, at+1)
		if opAt(body, b.end) == op+1 { // StElse behind StIf, StCatch behind StTry
			b.second = b.end
			b.end, other = readBody(body, b.end+1)
		}
		b.steps = 1 + first + other
		if op == impl.StIf {
			b.steps = 1 + max(first, other)
		}
		return b, opAt(body, b.end) == impl.StEnd && (op == impl.StIf || b.second >= 0)
	case impl.StLoop:
		b.end, first = readBody(body, at+1)
		for range body[at].N {
			b.steps += 1 + first
		}
		return b, opAt(body, b.end) == impl.StEnd
	}
	return b, !slices.Contains([]int64{pastTheEnd, impl.StElse, impl.StEnd, impl.StCatch}, opAt(body, at))
}

// readBody reads as many Stmts as there are; where it stops, and their steps.
func readBody(body []impl.Stmt, at int64) (int64, int64) {
	steps := int64(0)
	for {
		b, is := readBlock(body, at)
		if !is {
			return at, steps
		}
		at, steps = b.end+1, steps+b.steps
	}
}

func opsOf(body []impl.Stmt) []int64 {
	var ops []int64
	for _, s := range body {
		ops = append(ops, s.Op)
	}
	return ops
}

func checkEnd(t *testing.T, body []impl.Stmt, at, wantSecond, wantEnd int64) {
	t.Helper()
	if second, end := impl.EndOf(body, at); second != wantSecond || end != wantEnd {
		t.Errorf("EndOf(%v, %d) = %d, %d; want %d, %d", opsOf(body), at, second, end, wantSecond, wantEnd)
	}
}

// checkEnds holds EndOf, at every place, against the reader.
func checkEnds(t *testing.T, body []impl.Stmt) {
	t.Helper()
	for at := range int64(len(body)) {
		want, is := readBlock(body, at)
		if !is || want.end == at {
			want = block{second: -1, end: -1}
		}
		checkEnd(t, body, at, want.second, want.end)
	}
}

// checkBlocks holds EndOf, the nesting and the steps against the reader.
func checkBlocks(t *testing.T, body []impl.Stmt) {
	t.Helper()
	checkEnds(t, body)
	p := roomy(body...)
	next, steps := readBody(body, 0)
	switch {
	case next < int64(len(body)):
		checkCode(t, fmt.Sprint(opsOf(body)), p, impl.PgNest)
	case steps > 400:
		checkCode(t, fmt.Sprint(opsOf(body)), p, impl.PgSteps)
	default:
		checkSteps(t, fmt.Sprint(opsOf(body)), p, steps)
	}
}

// TestShortBodiesAllTold goes through all short bodies.
func TestShortBodiesAllTold(t *testing.T) {
	bodies := [][]impl.Stmt{nil}
	for start := 0; start < len(bodies); start++ {
		body := bodies[start]
		checkBlocks(t, body)
		if len(body) < 6 {
			for _, s := range nestOps {
				bodies = append(bodies, append(slices.Clone(body), s))
			}
		}
	}
}

// grownStmt makes a well nested Stmt, with its bodies, of at most that many.
func grownStmt(source *rand.Rand, room int) []impl.Stmt {
	share := source.Intn(room)
	switch kind := source.Intn(6); {
	case kind == 0 && room >= 2:
		return wrapped(numbered(impl.StLoop, source.Int63n(5)), grownBody(source, min(share, room-2))...)
	case kind == 1 && room >= 2:
		return wrapped(asked(num(1)), grownBody(source, min(share, room-2))...)
	case kind == 2 && room >= 3:
		return wrapped(asked(num(1)), grownPair(source, room-3, plain(impl.StElse))...)
	case kind == 3 && room >= 3:
		return wrapped(plain(impl.StTry), grownPair(source, room-3, numbered(impl.StCatch, source.Int63n(10)))...)
	}
	return []impl.Stmt{[]impl.Stmt{told(num(1)), set(4, one()), put(1, one(), one()), numbered(impl.StThrow, 7)}[source.Intn(4)]}
}

func grownPair(source *rand.Rand, room int, middle impl.Stmt) []impl.Stmt {
	first := grownBody(source, source.Intn(room+1))
	return slices.Concat(first, []impl.Stmt{middle}, grownBody(source, room-len(first)))
}

func grownBody(source *rand.Rand, room int) []impl.Stmt {
	var body []impl.Stmt
	for len(body) < room && source.Intn(9) > 0 {
		body = append(body, grownStmt(source, room-len(body))...)
	}
	return body
}

func TestGrownBodies(t *testing.T) {
	source := rand.New(rand.NewSource(5))
	for range 4000 {
		body := grownBody(source, 40)
		if next, _ := readBody(body, 0); next != int64(len(body)) || len(body) > 40 {
			t.Fatalf("%v is not well nested, or too long", opsOf(body))
		}
		checkBlocks(t, body)
		if len(body) == 0 {
			continue
		}
		at := source.Intn(len(body))
		changed := slices.Clone(body)
		changed[at] = nestOps[source.Intn(len(nestOps))]
		checkBlocks(t, changed)
		checkBlocks(t, slices.Delete(slices.Clone(body), at, at+1))
	}
}

func TestNesting(t *testing.T) {
	open, other, end, loop := asked(num(1)), plain(impl.StElse), plain(impl.StEnd), numbered(impl.StLoop, 2)
	try, catch, out := plain(impl.StTry), numbered(impl.StCatch, 2), told(num(1))
	wrong := map[string][]impl.Stmt{
		"an StElse twice":                      {open, other, other, end},
		"an StElse twice, not side by side":    {open, out, other, out, other, out, end},
		"an StCatch twice":                     {try, catch, catch, end},
		"two StCatches of other numbers":       {try, numbered(impl.StCatch, 1), out, catch, end},
		"an StElse of nothing":                 {other},
		"an StElse behind its StEnd":           {open, end, other},
		"an StCatch of nothing":                {catch},
		"an StCatch behind its StEnd":          {try, catch, end, catch},
		"an StElse of an StTry":                {try, other, end},
		"an StElse of an StTry with its catch": {try, other, catch, end},
		"an StElse behind an StCatch":          {try, catch, other, end},
		"an StCatch of an StIf":                {open, catch, end},
		"an StCatch behind an StElse":          {open, other, catch, end},
		"an StElse of an StLoop":               {loop, other, end},
		"an StCatch of an StLoop":              {loop, catch, end},
		"an StTry with no StCatch":             {try, end},
		"an StTry with an StCatch within":      {try, try, catch, end, end},
		"an StEnd of nothing":                  {end},
		"an StEnd too many":                    {out, loop, end, end},
		"an StIf with no StEnd":                {open},
		"an StIf with no StEnd, but StElse":    {open, other},
		"an StLoop with no StEnd":              {loop, out},
		"an StTry with no StEnd":               {try, catch},
		"an StTry alone":                       {try},
		"an StEnd too few":                     {loop, open, end},
		"an StElse in a loop in an StIf":       {open, loop, other, end, end},
		"an StElse of a loop behind an StIf":   {open, end, loop, other, end},
		"an StCatch in a loop in an StTry":     {try, loop, catch, end, end},
		"an StCatch in an StIf in an StTry":    {try, open, catch, end, end},
		"blocks that cross":                    {try, open, catch, other, end, end},
	}
	for name, body := range wrong {
		checkCode(t, name, roomy(body...), impl.PgNest)
		checkCode(t, name+", within a loop", roomy(wrapped(loop, body...)...), impl.PgNest)
		checkCode(t, name+", behind a block", roomy(append(wrapped(loop), body...)...), impl.PgNest)
	}
}

// TestBlocksWithinBlocks has each kind within each body of each kind.
func TestBlocksWithinBlocks(t *testing.T) {
	open, other, end, loop := asked(num(1)), plain(impl.StElse), plain(impl.StEnd), numbered(impl.StLoop, 2)
	try, catch, out := plain(impl.StTry), numbered(impl.StCatch, 2), told(num(1))
	around := [][2][]impl.Stmt{
		{{open}, {end}}, {{open}, {other, end}}, {{open, other}, {end}}, {{open}, {other, out, end}}, {{open, out, other}, {end}},
		{{loop}, {end}}, {{try}, {catch, end}}, {{try, catch}, {end}}, {{try, out, catch}, {out, end}},
	}
	bodies := [][]impl.Stmt{{}, {out}}
	for range 3 {
		var more [][]impl.Stmt
		for _, body := range bodies {
			for _, pair := range around {
				more = append(more, slices.Concat(pair[0], body, pair[1]))
			}
		}
		bodies = more
		for _, body := range bodies {
			if impl.CodeOf(roomy(body...)) != impl.PgOk {
				t.Errorf("%v: CodeOf is not PgOk", opsOf(body))
			}
			checkBlocks(t, body)
			checkBlocks(t, slices.Concat(body, body))
		}
	}
}

func loops(inner []impl.Stmt, rounds ...int64) []impl.Stmt {
	for _, n := range slices.Backward(rounds) {
		inner = wrapped(numbered(impl.StLoop, n), inner...)
	}
	return inner
}

func TestStepsByHand(t *testing.T) {
	open, other, try, catch := asked(num(1)), plain(impl.StElse), plain(impl.StTry), numbered(impl.StCatch, 0)
	parted := func(first impl.Stmt, one int, middle impl.Stmt, two int) []impl.Stmt {
		return wrapped(first, slices.Concat(outs(one), []impl.Stmt{middle}, outs(two))...)
	}
	cases := []struct {
		name string
		body []impl.Stmt
		want int64
	}{
		{"StSet", []impl.Stmt{set(5, one())}, 1}, {"StPut", []impl.Stmt{put(0, one(), one())}, 1}, {"StOut", outs(1), 1},
		{"StThrow", []impl.Stmt{numbered(impl.StThrow, 9)}, 1}, {"behind StThrow", append([]impl.Stmt{numbered(impl.StThrow, 9)}, outs(2)...), 3},
		{"an StIf with nothing", wrapped(open), 1}, {"an StIf with three", wrapped(open, outs(3)...), 4},
		{"an StElse with nothing", parted(open, 3, other, 0), 4}, {"the second body alone", parted(open, 0, other, 3), 4},
		{"the second body is greater", parted(open, 2, other, 5), 6}, {"the first body is greater", parted(open, 5, other, 2), 6}, {"both alike", parted(open, 4, other, 4), 5},
		{"the second body has fewer Stmts, but more steps", wrapped(open, slices.Concat(outs(5), []impl.Stmt{other}, loops(outs(1), 4))...), 10},
		{"an StTry with nothing", parted(try, 0, catch, 0), 1}, {"the tried alone", parted(try, 3, catch, 0), 4}, {"the caught alone", parted(try, 0, catch, 3), 4}, {"both of an StTry", parted(try, 2, catch, 5), 8},
		{"no rounds", loops(nil, 0), 1}, {"no rounds of two", loops(outs(2), 0), 1}, {"one round", loops(nil, 1), 2}, {"four rounds of nothing", loops(nil, 4), 5}, {"four rounds of three", loops(outs(3), 4), 17},
		{"loops in loops", loops(outs(1), 2, 3), 1 + 2*(1+1+3*2)}, {"three loops", loops(outs(2), 2, 3, 4), 1 + 2*(1+1+3*(1+1+4*3))},
		{"none in a loop of none", loops(loops(nil, 4), 0), 1}, {"a loop of none in a loop", loops(nil, 4, 0), 1 + 4*2},
		{"loops side by side", slices.Concat(loops(outs(1), 2), outs(3), loops(outs(2), 3)), 5 + 3 + 10},
		{"two StIfs in a loop", loops(slices.Concat(parted(open, 1, other, 2), parted(open, 2, other, 1)), 4), 1 + 4*(1+3+3)},
		{"an StTry in a loop in an StIf", wrapped(open, loops(parted(try, 2, catch, 2), 3)...), 1 + 1 + 3*(1+5)},
		{"forty", outs(40), 40},
	}
	for _, c := range cases {
		checkSteps(t, c.name, roomy(c.body...), c.want)
	}
}

// bodyOfSteps has just so many steps in few Stmts.
func bodyOfSteps(steps int) []impl.Stmt {
	var body []impl.Stmt
	for _, n := range []int{3, 2, 1} {
		again := loops(outs(3), slices.Repeat([]int64{4}, n)...)
		_, each := readBody(again, 0)
		body = append(body, slices.Repeat(again, steps/int(each))...)
		steps %= int(each)
	}
	return append(body, outs(steps)...)
}

// TestStepsAtTheLimit has bodies of exactly MaxSteps steps, each with another
// thing that makes up the last ones: one step more is refused.
func TestStepsAtTheLimit(t *testing.T) {
	open, other := asked(num(1)), plain(impl.StElse)
	try, catch := plain(impl.StTry), numbered(impl.StCatch, 0)
	deep, flat := loops(outs(3), 4, 4, 4), loops(outs(3), 4, 4)
	cases := map[string]struct {
		body []impl.Stmt
		left int
	}{
		"loops in loops": {deep, 400 - 297},
		"in an StIf":     {wrapped(open, slices.Concat(outs(2), []impl.Stmt{other}, deep)...), 400 - 1 - 297},
		"in an StTry":    {wrapped(try, slices.Concat(flat, []impl.Stmt{catch}, deep)...), 400 - 1 - 297 - 73},
		"by one loop":    {slices.Concat(deep, flat, loops(outs(6), 4)), 400 - 297 - 73 - 29},
	}
	for name, c := range cases {
		c.body = slices.Concat(c.body, bodyOfSteps(c.left))
		checkSteps(t, name, roomy(c.body...), 400)
		checkCode(t, name+", and one more", roomy(slices.Concat(c.body, outs(1))...), impl.PgSteps)
		checkCode(t, name+", and one ahead", roomy(slices.Concat(outs(1), c.body)...), impl.PgSteps)
	}
}

func TestStepsPastTheLimit(t *testing.T) {
	checkSteps(t, "three loops", roomy(loops(nil, 4, 4, 4)...), 105)
	for depth := 4; depth <= 20; depth++ {
		body := loops(nil, slices.Repeat([]int64{4}, depth)...)
		checkCode(t, fmt.Sprintf("%d loops", depth), roomy(body...), impl.PgSteps)
	}
	none := slices.Repeat([]int64{4}, 20)
	none[0] = 0
	checkSteps(t, "twenty loops, the first of no rounds", roomy(loops(nil, none...)...), 1)
	checkSteps(t, "twenty loops of one round", roomy(loops(nil, slices.Repeat([]int64{1}, 20)...)...), 40)
}

func TestEndOf(t *testing.T) {
	open, other, end, loop := asked(num(1)), plain(impl.StElse), plain(impl.StEnd), numbered(impl.StLoop, 2)
	try, catch, out := plain(impl.StTry), numbered(impl.StCatch, 2), told(num(1))
	body := []impl.Stmt{set(4, one()), put(0, one(), one()), open, other, end, loop, out, end, try, numbered(impl.StThrow, 1), catch, end, open, end}
	wants := [][2]int64{{-1, -1}, {-1, -1}, {3, 4}, {-1, -1}, {-1, -1}, {-1, 7}, {-1, -1}, {-1, -1}, {10, 11}, {-1, -1}, {-1, -1}, {-1, -1}, {-1, 13}, {-1, -1}}
	for at, want := range wants {
		checkEnd(t, body, int64(at), want[0], want[1])
	}
	for _, at := range append([]int64{-1, -2, -12, -14, 14, 15, 16, 28}, far...) {
		checkEnd(t, body, at, -1, -1)
	}
	for _, none := range [][]impl.Stmt{nil, {}} {
		checkEnd(t, none, 0, -1, -1)
		checkEnd(t, none, -1, -1, -1)
	}
}

// TestEndOfLooksNoFurther has faults ahead of the block and behind its StEnd.
func TestEndOfLooksNoFurther(t *testing.T) {
	open, other, end, try, catch := asked(num(1)), plain(impl.StElse), plain(impl.StEnd), plain(impl.StTry), numbered(impl.StCatch, 2)
	faults := [][]impl.Stmt{{end}, {other}, {catch}, {open}, {try, end}, {end, end}, {open, other, other}, {plain(10)}, {plain(-1)}}
	for _, fault := range faults {
		n := int64(len(fault))
		inner := []impl.Stmt{open, try, catch, end, other, end}
		behind, ahead, within := slices.Concat(inner, fault), slices.Concat(fault, inner), slices.Concat(inner[:5], fault, inner[5:])
		checkEnd(t, behind, 0, 4, 5)
		checkEnd(t, behind, 1, 2, 3)
		checkEnd(t, ahead, n, n+4, n+5)
		checkEnd(t, ahead, n+1, n+2, n+3)
		checkEnd(t, within, 1, 2, 3)
		checkEnds(t, within)
	}
}

// TestEndOfAsksNoMore: what else is wrong with a Stmt does not matter there.
func TestEndOfAsksNoMore(t *testing.T) {
	strange := []impl.Stmt{
		{Op: impl.StIf, N: 5, At: one()}, {Op: impl.StOut}, {Op: 10}, {Op: -1}, {Op: impl.StElse, N: -3, Exp: one()},
		{Op: impl.StLoop, N: 99, Exp: times(50, num(9))}, {Op: impl.StEnd, N: math.MinInt64, At: one()}, {Op: impl.StEnd, N: 7},
	}
	checkEnd(t, strange, 0, 4, 7)
	checkEnd(t, strange, 5, -1, 6)
}

func TestEndOfAtTheLimitOfStmts(t *testing.T) {
	whole := wrapped(plain(impl.StTry), append([]impl.Stmt{numbered(impl.StCatch, 0)}, outs(37)...)...)
	checkEnd(t, whole, 0, 1, 39)
	checkEnd(t, append(slices.Clone(whole), told(num(1))), 0, -1, -1)
	checkEnd(t, append(outs(1), whole...), 1, -1, -1)
	short := append(wrapped(asked(num(1))), outs(38)...)
	checkEnd(t, short, 0, -1, 1)
	checkEnd(t, append(short, told(num(1))), 0, -1, -1)
	checkEnd(t, append(short, outs(5000)...), 0, -1, -1)
	deep := loops(nil, slices.Repeat([]int64{4}, 20)...)
	for at := range int64(20) {
		checkEnd(t, deep, at, -1, 39-at)
	}
	checkEnd(t, append(outs(1), deep...), 1, -1, -1)
}

// fault breaks a right Prog in just one way. Those of the Body add Stmts ahead.
type fault struct {
	name  string
	code  int64
	spoil func(p *impl.Prog)
}

func ahead(name string, code int64, stmts ...impl.Stmt) fault {
	return fault{name, code, func(p *impl.Prog) { p.Body = slices.Concat(stmts, p.Body) }}
}

func allFaults() []fault {
	end := plain(impl.StEnd)
	return []fault{
		{"Width 0", impl.PgWidth, func(p *impl.Prog) { p.Width = 0 }},
		{"Width 9", impl.PgWidth, func(p *impl.Prog) { p.Width = 9 }},
		{"Width -1", impl.PgWidth, func(p *impl.Prog) { p.Width = -1 }},
		{"four Lows", impl.PgInput, func(p *impl.Prog) { p.Lows = make([]impl.Input, 4) }},
		{"four Secrets", impl.PgInput, func(p *impl.Prog) { p.Secrets = make([]impl.Input, 4) }},
		{"a Max of -1", impl.PgInput, func(p *impl.Prog) { p.Lows = maxes(0, -1) }},
		{"a Max of 256", impl.PgInput, func(p *impl.Prog) { p.Secrets = maxes(256) }},
		{"a Budget of 100", impl.PgInput, func(p *impl.Prog) { p.Secrets = []impl.Input{{Budget: 100}} }},
		{"a Budget of a Low", impl.PgInput, func(p *impl.Prog) { p.Lows = []impl.Input{{Budget: 1}} }},
		{"eleven bits", impl.PgInput, func(p *impl.Prog) { p.Lows, p.Secrets = maxes(255), maxes(7) }},
		{"-1 Temps", impl.PgRoom, func(p *impl.Prog) { p.Temps = -1 }},
		{"7 Temps", impl.PgRoom, func(p *impl.Prog) { p.Temps = 7 }},
		{"three Arrays", impl.PgRoom, func(p *impl.Prog) { p.Arrays = []int64{1, 1, 1} }},
		{"a size of 0", impl.PgRoom, func(p *impl.Prog) { p.Arrays = []int64{1, 0} }},
		{"a size of 7", impl.PgRoom, func(p *impl.Prog) { p.Arrays = []int64{7} }},
		ahead("41 Stmts", impl.PgRoom, outs(41)...),
		ahead("an Op of 10", impl.PgStmt, plain(10)),
		ahead("an Op of -1", impl.PgStmt, plain(-1)),
		ahead("a Low is set", impl.PgStmt, set(0, one())),
		ahead("an At of an StOut", impl.PgStmt, impl.Stmt{Op: impl.StOut, At: one(), Exp: one()}),
		ahead("no Exp", impl.PgStmt, told()),
		ahead("no At", impl.PgStmt, put(0, nil, one())),
		ahead("41 Terms", impl.PgStmt, told(joined(one(), times(40, sign(impl.TmNot)))...)),
		ahead("a TmIf", impl.PgStmt, told(single(sign(impl.TmIf))...)),
		ahead("a throw of 10", impl.PgStmt, numbered(impl.StThrow, 10)),
		ahead("a loop of 5", impl.PgStmt, loops(nil, 5)...),
		ahead("two StEnds too many", impl.PgNest, end, end),
		ahead("an StEnd too few", impl.PgNest, asked(num(1))),
		ahead("an StElse of nothing", impl.PgNest, plain(impl.StElse)),
		ahead("an StTry with no StCatch", impl.PgNest, wrapped(plain(impl.StTry))...),
		ahead("loops in loops", impl.PgSteps, loops(nil, 4, 4, 4, 4)...),
		ahead("loops side by side", impl.PgSteps, slices.Repeat(loops(outs(1), 4, 4, 4), 3)...),
	}
}

// broken is a right Prog with those faults, the last one ahead of all in the
// Body. What it puts out is right whatever else is wrong.
func broken(faults ...fault) impl.Prog {
	p := impl.Prog{Width: 8, Lows: maxes(3), Secrets: maxes(1), Temps: 1, Arrays: []int64{2}, Body: []impl.Stmt{told(num(1))}}
	for _, f := range faults {
		f.spoil(&p)
	}
	return p
}

func TestEachFaultAlone(t *testing.T) {
	checkSteps(t, "no fault", broken(), 1)
	for _, f := range allFaults() {
		checkCode(t, f.name, broken(f), f.code)
	}
}

func TestEachPairOfFaults(t *testing.T) {
	faults := allFaults()
	for _, a := range faults {
		for _, b := range faults {
			checkCode(t, a.name+" and "+b.name, broken(a, b), firstCode(a, b))
		}
	}
}

// firstCode is that of the faults, but that too many Stmts may come of both.
func firstCode(faults ...fault) int64 {
	code := int64(impl.PgSteps)
	for _, f := range faults {
		code = min(code, f.code)
	}
	if len(broken(faults...).Body) > 40 {
		code = min(code, impl.PgRoom)
	}
	return code
}

// TestManyFaults takes away the first fault of a Prog with one of each code.
func TestManyFaults(t *testing.T) {
	var each []fault
	for _, f := range allFaults() {
		if len(each) == 0 || each[len(each)-1].code != f.code {
			each = append(each, f)
		}
	}
	if len(each) != 6 {
		t.Fatalf("%d faults of six codes", len(each))
	}
	for first := range each {
		checkCode(t, "all from "+each[first].name+" on", broken(each[first:]...), each[first].code)
	}
}

// TestWhatIsSeenOfAFaultAhead: a Max, a number or a variable is asked of what
// the Prog has, so one fault makes another one, whose code is told later.
func TestWhatIsSeenOfAFaultAhead(t *testing.T) {
	p := roomy(told(num(7)), told(variable(5)), told(num(0), cell(1)))
	checkCode(t, "all there", p, impl.PgOk)
	narrow := p
	narrow.Width = 2
	checkCode(t, "a Width that is too little for a Max", narrow, impl.PgInput)
	narrow.Lows, narrow.Secrets = maxes(3, 0), maxes(1, 3)
	checkCode(t, "a Width that is too little for a number", narrow, impl.PgStmt)
	fewer := p
	fewer.Temps = 1
	checkCode(t, "a Temp less", fewer, impl.PgStmt)
	less := p
	less.Arrays = []int64{6}
	checkCode(t, "an array less", less, impl.PgStmt)
	shifted := p
	shifted.Lows = maxes(7)
	checkCode(t, "a Low less", shifted, impl.PgStmt)
}

// roomBehind copies a list with marked spare room behind it.
func roomBehind[T any](list []T, mark T) []T {
	whole := append(slices.Clone(list), slices.Repeat([]T{mark}, 4)...)
	return whole[:len(list)]
}

// spacious is the Prog with marked spare room behind each list in it.
func spacious(p impl.Prog) impl.Prog {
	mark := impl.Term{Op: spareMark, N: spareMark}
	p.Lows = roomBehind(p.Lows, impl.Input{Max: spareMark, Budget: spareMark})
	p.Secrets = roomBehind(p.Secrets, impl.Input{Max: spareMark, Budget: spareMark})
	p.Arrays = roomBehind(p.Arrays, spareMark)
	p.Body = roomBehind(p.Body, impl.Stmt{Op: spareMark, N: spareMark})
	for i, s := range p.Body {
		p.Body[i].At, p.Body[i].Exp = roomBehind(s.At, mark), roomBehind(s.Exp, mark)
	}
	return p
}

// unfolded is the Prog with the spare room of each list told as well.
func unfolded(p impl.Prog) impl.Prog {
	p.Lows, p.Secrets, p.Arrays = p.Lows[:cap(p.Lows)], p.Secrets[:cap(p.Secrets)], p.Arrays[:cap(p.Arrays)]
	p.Body = slices.Clone(p.Body[:cap(p.Body)])
	for i, s := range p.Body {
		p.Body[i].At, p.Body[i].Exp = s.At[:cap(s.At)], s.Exp[:cap(s.Exp)]
	}
	return p
}

// checkStays makes the calls on a Prog with spare room, and tells what changed.
func checkStays(t *testing.T, name string, p impl.Prog, calls func(p impl.Prog)) {
	t.Helper()
	given, kept := spacious(p), spacious(p)
	calls(given)
	if !reflect.DeepEqual(unfolded(given), unfolded(kept)) {
		t.Errorf("%s: the argument was written into: %v, was %v", name, unfolded(given), unfolded(kept))
	}
}

func askAllOfProg(p impl.Prog) {
	impl.ProgOk(p)
	impl.CodeOf(p)
	impl.StepsOf(p)
	for at := int64(-1); at <= int64(len(p.Body)); at++ {
		impl.EndOf(p.Body, at)
	}
}

func TestProgramsStay(t *testing.T) {
	faults := allFaults()
	for _, a := range faults {
		checkStays(t, a.name, broken(a), askAllOfProg)
		for _, b := range faults {
			checkStays(t, a.name+" and "+b.name, broken(a, b), askAllOfProg)
		}
	}
	source := rand.New(rand.NewSource(6))
	for range 300 {
		body := grownBody(source, 40)
		checkStays(t, fmt.Sprint(opsOf(body)), roomy(body...), askAllOfProg)
	}
	for _, e := range goodExpressions()[:60] {
		checkStays(t, fmt.Sprint(brief(e)), roomy(holders(e)...), askAllOfProg)
	}
}

func TestSameProgramSameAnswers(t *testing.T) {
	for _, f := range allFaults() {
		p := broken(f)
		first := impl.CodeOf(p)
		impl.CodeOf(broken())
		if again := impl.CodeOf(spacious(p)); again != first {
			t.Errorf("%s: CodeOf is %d, then %d", f.name, first, again)
		}
	}
}
