package tests

import (
	"math"
	"math/rand"
	"slices"
	"testing"

	"loop.example/g00697/impl"
)

// takesByOp is the document's table, an Op each, kept apart from the program.
var takesByOp = []int64{0, 0, 1, 1, 1, 2, 2, 2, 2, 2, 2, 2, 2, 2, 2, 2, 2, 3}

func num(n int64) impl.Term      { return impl.Term{Op: impl.TmNum, N: n} }
func variable(n int64) impl.Term { return impl.Term{Op: impl.TmVar, N: n} }
func cell(n int64) impl.Term     { return impl.Term{Op: impl.TmCell, N: n} }
func sign(op int64) impl.Term    { return impl.Term{Op: op} }

func joined(parts ...[]impl.Term) []impl.Term { return slices.Concat(parts...) }

func times(count int, terms ...impl.Term) []impl.Term { return slices.Repeat(terms, count) }

// single is the least expression that ends with the Term: it takes numbers.
func single(last impl.Term) []impl.Term {
	return append(times(int(takesByOp[last.Op]), num(7)), last)
}

// isExpression reads from the end, by the definition: a Term behind the
// expressions that it takes, and nothing ahead of them.
func isExpression(e []impl.Term) bool {
	return len(e) > 0 && len(e) <= 3000 && beginning(e, len(e)-1) == 0
}

// beginning is where the expression begins that ends at a place, or -1.
func beginning(e []impl.Term, at int) int {
	if at < 0 || e[at].Op < 0 || e[at].Op > 17 || e[at].N < 0 || e[at].N > 255 || e[at].Op > 2 && e[at].N != 0 {
		return -1
	}
	for range takesByOp[e[at].Op] {
		if at = beginning(e, at-1); at < 0 {
			return -1
		}
	}
	return at
}

// grown makes an expression of about that many Terms, and tells its parts.
func grown(source *rand.Rand, size int) (e []impl.Term, parts [][]impl.Term) {
	if size <= 1 {
		return []impl.Term{{Op: source.Int63n(2), N: source.Int63n(256)}}, nil
	}
	last := impl.Term{Op: 2 + source.Int63n(16)}
	if last.Op == impl.TmCell {
		last.N = source.Int63n(256)
	}
	size--
	for left := int(takesByOp[last.Op]); left > 0; left-- {
		share := size
		if left > 1 {
			share = source.Intn(size + 1)
		}
		size -= share
		part, _ := grown(source, share)
		parts = append(parts, part)
	}
	return append(slices.Concat(parts...), last), parts
}

func grownOnes() [][]impl.Term {
	source := rand.New(rand.NewSource(2))
	var all [][]impl.Term
	for size := 1; size <= 120; size++ {
		e, _ := grown(source, size)
		all = append(all, e)
	}
	return all
}

// widestOnes have exactly MaxWide Terms, each hung in another way.
func widestOnes() [][]impl.Term {
	not, add, choose := sign(impl.TmNot), sign(impl.TmAdd), sign(impl.TmIf)
	return [][]impl.Term{
		joined(times(1, variable(1)), times(2999, not)),
		joined(times(1, num(1)), times(2999, cell(3))),
		joined(times(1, variable(255)), times(1499, num(255), add), times(1, not)),
		joined(times(1500, variable(9)), times(1499, add), times(1, not)),
		joined(times(1, num(4)), times(999, num(5), variable(6), choose), times(2, not)),
		joined(times(1999, num(4)), times(999, choose), times(2, not)),
		joined(times(1, variable(2)), times(1498, not), times(1, variable(3)), times(1499, not), times(1, add)),
	}
}

func goodExpressions() [][]impl.Term {
	all := [][]impl.Term{
		{num(0)}, {num(255)}, {variable(0)}, {variable(255)},
		{num(255), cell(255)}, {variable(0), cell(0)},
		{variable(3), num(5), sign(impl.TmAdd), variable(1), cell(1), sign(impl.TmNeg), sign(impl.TmMul)},
		{num(1), num(2), num(3), sign(impl.TmIf)},
		{variable(1), num(2), sign(impl.TmIf - 1), num(3), num(4), sign(impl.TmIf)},
		{num(1), num(2), num(3), sign(impl.TmIf), cell(0), cell(1), cell(0)},
	}
	for op := range takesByOp {
		all = append(all, single(sign(int64(op))))
	}
	return append(append(all, grownOnes()...), widestOnes()...)
}

func badExpressions() [][]impl.Term {
	not, add, choose := sign(impl.TmNot), sign(impl.TmAdd), sign(impl.TmIf)
	all := [][]impl.Term{
		nil, {},
		{cell(0)}, {not}, {sign(impl.TmNeg)}, {add}, {choose},
		{num(1), add}, {num(1), choose}, {num(1), num(2), choose},
		{not, num(1)}, {add, num(1), num(2)}, {num(1), add, num(2)}, {num(1), num(2), choose, num(3)},
		{num(1), add, num(2), add, num(3)}, {num(1), not, add}, {num(1), num(2), add, add},
		{num(1), num(2)}, {variable(1), variable(1)}, {num(1), num(2), not}, {num(1), num(2), num(3), add}, {num(1), num(2), num(3), num(4), choose},
		times(3000, num(1)), times(3000, not), times(50000, num(1)),
	}
	for _, op := range []int64{-1, 18, 19, 255, -255, math.MaxInt64, math.MinInt64, math.MaxInt64 - 1, 1 << 32, -1 << 32, 1<<32 + 1} {
		strange := sign(op)
		all = append(all, []impl.Term{strange}, []impl.Term{num(1), strange}, []impl.Term{num(1), num(2), strange},
			[]impl.Term{strange, not}, []impl.Term{num(1), strange, add}, []impl.Term{num(1), num(2), strange, add})
	}
	for _, n := range []int64{-1, 256, 257, math.MaxInt64, math.MinInt64, 1 << 32} {
		all = append(all, []impl.Term{num(n)}, []impl.Term{variable(n)}, []impl.Term{num(1), cell(n)},
			[]impl.Term{num(n), num(1), add}, []impl.Term{num(1), variable(n), add}, []impl.Term{variable(1), cell(n), not})
	}
	for op := int64(impl.TmNot); op <= impl.TmIf; op++ {
		for _, n := range []int64{1, -1, 255, 256, math.MaxInt64, math.MinInt64} {
			wrong := single(impl.Term{Op: op, N: n})
			all = append(all, wrong, append(slices.Clone(wrong), not))
		}
	}
	for _, e := range widestOnes() {
		all = append(all, append(slices.Clone(e), not), append(slices.Clone(e), num(1), add))
	}
	return append(all, joined(times(1, num(1)), times(50000, not)))
}

// brief keeps a failure readable, whatever the width.
func brief(e []impl.Term) []impl.Term { return e[:min(len(e), 12)] }

func TestTakesOf(t *testing.T) {
	for op, want := range takesByOp {
		if got := impl.TakesOf(int64(op)); got != want {
			t.Errorf("TakesOf(%d) = %d, want %d", op, got, want)
		}
	}
	for _, op := range []int64{-1, -2, -17, -18, 18, 19, 100, 255, 256, 1 << 32, 1<<32 + 5, -1 << 32, math.MaxInt64, math.MaxInt64 - 1, math.MinInt64, math.MinInt64 + 5} {
		if got := impl.TakesOf(op); got != -1 {
			t.Errorf("TakesOf(%d) = %d, want -1", op, got)
		}
	}
}

func TestExpOk(t *testing.T) {
	for _, e := range goodExpressions() {
		if !impl.ExpOk(e) {
			t.Errorf("ExpOk of %d Terms %v is false", len(e), brief(e))
		}
	}
	for _, e := range badExpressions() {
		if impl.ExpOk(e) {
			t.Errorf("ExpOk of %d Terms %v is true", len(e), brief(e))
		}
	}
}

func TestExpOkAtTheLimitOfTerms(t *testing.T) {
	for _, e := range widestOnes() {
		if len(e) != impl.MaxWide || !impl.ExpOk(e) {
			t.Errorf("ExpOk of %d Terms %v is %v", len(e), brief(e), impl.ExpOk(e))
		}
		wider := append(slices.Clone(e), sign(impl.TmNot))
		if len(wider) != 3001 || impl.ExpOk(wider) {
			t.Errorf("ExpOk of %d Terms %v is %v", len(wider), brief(wider), impl.ExpOk(wider))
		}
	}
}

func TestExpOkAtTheLimitsOfN(t *testing.T) {
	for op := range takesByOp {
		for _, n := range []int64{0, 1, 2, 254, 255, 256, 257, -1, -255, math.MaxInt64, math.MinInt64} {
			want := n == 0 || op <= impl.TmCell && n >= 0 && n <= 255
			e := single(impl.Term{Op: int64(op), N: n})
			if got := impl.ExpOk(e); got != want {
				t.Errorf("ExpOk(%v) = %v, want %v", e, got, want)
			}
			within := append(append([]impl.Term{variable(4)}, e...), sign(impl.TmXor), sign(impl.TmNeg))
			if got := impl.ExpOk(within); got != want {
				t.Errorf("ExpOk(%v) = %v, want %v", within, got, want)
			}
		}
	}
}

// TestShortListsAllTold goes through all short lists over some Terms.
func TestShortListsAllTold(t *testing.T) {
	letters := []impl.Term{num(9), variable(2), cell(1), sign(impl.TmNeg), sign(impl.TmDiv), sign(impl.TmIf), sign(18)}
	lists := [][]impl.Term{nil}
	for start := 0; start < len(lists); start++ {
		e := lists[start]
		want := isExpression(e)
		if got := impl.ExpOk(e); got != want {
			t.Errorf("ExpOk(%v) = %v, want %v", e, got, want)
		}
		if want {
			checkPlaces(t, e)
			checkPutTogether(t, e)
			checkNames(t, e)
		} else {
			checkNoExpression(t, e)
		}
		if len(e) < 5 {
			for _, letter := range letters {
				lists = append(lists, append(slices.Clone(e), letter))
			}
		}
	}
}

// checkPlaces holds FirstOf, at every place, against a stack of beginnings.
func checkPlaces(t *testing.T, e []impl.Term) {
	t.Helper()
	var begun []int64
	for at, term := range e {
		begun = append(begun, int64(at))
		begun = begun[:len(begun)-int(takesByOp[term.Op])]
		want := begun[len(begun)-1]
		if got := impl.FirstOf(e, int64(at)); got != want {
			t.Errorf("FirstOf of %d Terms %v at %d = %d, want %d", len(e), brief(e), at, got, want)
			return
		}
	}
	checkNoPlaces(t, e)
}

func checkNoPlaces(t *testing.T, e []impl.Term) {
	t.Helper()
	n := int64(len(e))
	for _, at := range []int64{-1, -2, -n, -n - 1, n, n + 1, n + 4, 2 * n * n, 1 << 32, -1 << 32, math.MaxInt64, math.MinInt64} {
		if at >= 0 && at < n {
			continue
		}
		if got := impl.FirstOf(e, at); got != -1 {
			t.Errorf("FirstOf of %d Terms %v at %d = %d, want -1", len(e), brief(e), at, got)
		}
	}
}

func TestFirstOf(t *testing.T) {
	for _, e := range goodExpressions() {
		checkPlaces(t, e)
		if got := impl.FirstOf(e, int64(len(e)-1)); got != 0 {
			t.Errorf("FirstOf of %d Terms %v at the last place = %d, want 0", len(e), brief(e), got)
		}
		if got := impl.FirstOf(e, 0); got != 0 {
			t.Errorf("FirstOf of %d Terms %v at the first place = %d, want 0", len(e), brief(e), got)
		}
	}
}

func TestFirstOfByHand(t *testing.T) {
	e := []impl.Term{variable(0), num(1), sign(impl.TmLt), variable(2), cell(0), num(3), num(4), sign(impl.TmSub), sign(impl.TmIf), sign(impl.TmNot)}
	for at, want := range []int64{0, 1, 0, 3, 3, 5, 6, 5, 0, 0} {
		if got := impl.FirstOf(e, int64(at)); got != want {
			t.Errorf("FirstOf(%v, %d) = %d, want %d", e, at, got, want)
		}
	}
}

// checkPutTogether is the promise: the parts, one behind the other, and the
// last Term are the expression; and each part is one of its own.
func checkPutTogether(t *testing.T, e []impl.Term) {
	t.Helper()
	last := e[len(e)-1]
	parts := impl.PartsOf(e)
	if int64(len(parts)) != takesByOp[last.Op] {
		t.Errorf("PartsOf of %d Terms %v are %d, want %d", len(e), brief(e), len(parts), takesByOp[last.Op])
	}
	if again := append(slices.Concat(parts...), last); !slices.Equal(again, e) {
		t.Errorf("PartsOf of %d Terms %v, and its last Term, make up %d Terms %v", len(e), brief(e), len(again), brief(again))
	}
	for k, part := range parts {
		if !isExpression(part) || !impl.ExpOk(part) {
			t.Errorf("PartsOf of %d Terms %v: part %d %v is no expression", len(e), brief(e), k, brief(part))
		}
	}
}

func TestPartsMakeUpTheExpression(t *testing.T) {
	for _, e := range goodExpressions() {
		checkPutTogether(t, e)
	}
}

// rebuilt takes an expression apart down to single Terms and back again.
func rebuilt(e []impl.Term) []impl.Term {
	var all []impl.Term
	for _, part := range impl.PartsOf(e) {
		all = append(all, rebuilt(part)...)
	}
	return append(all, e[len(e)-1])
}

func TestPartsOfPartsMakeUpTheExpression(t *testing.T) {
	for _, e := range grownOnes() {
		if again := rebuilt(e); !slices.Equal(again, e) {
			t.Errorf("%v is put together as %v", e, again)
		}
	}
}

func TestPartsOf(t *testing.T) {
	a, b, c := []impl.Term{num(1), sign(impl.TmNot)}, []impl.Term{variable(2), variable(3), sign(impl.TmShl)}, []impl.Term{num(4), cell(5)}
	cases := []struct {
		last  impl.Term
		parts [][]impl.Term
	}{
		{num(0), nil}, {num(255), nil}, {variable(255), nil},
		{cell(0), [][]impl.Term{b}}, {cell(255), [][]impl.Term{a}}, {sign(impl.TmNot), [][]impl.Term{c}}, {sign(impl.TmNeg), [][]impl.Term{b}},
		{sign(impl.TmSub), [][]impl.Term{a, b}}, {sign(impl.TmSub), [][]impl.Term{b, a}}, {sign(impl.TmLt), [][]impl.Term{c, c}},
		{sign(impl.TmIf), [][]impl.Term{a, b, c}}, {sign(impl.TmIf), [][]impl.Term{c, b, a}}, {sign(impl.TmIf), [][]impl.Term{b, b, b}},
	}
	for _, want := range cases {
		e := append(slices.Concat(want.parts...), want.last)
		if got := impl.PartsOf(e); !slices.EqualFunc(got, want.parts, slices.Equal) {
			t.Errorf("PartsOf(%v) = %v, want %v", e, got, want.parts)
		}
	}
}

func TestPartsOfGrownOnes(t *testing.T) {
	source := rand.New(rand.NewSource(3))
	for size := 1; size <= 2000; size += 1 + size/10 {
		e, want := grown(source, size)
		if got := impl.PartsOf(e); len(e) > impl.MaxWide || !slices.EqualFunc(got, want, slices.Equal) {
			t.Errorf("PartsOf of %d Terms %v are %d, want %d others", len(e), brief(e), len(got), len(want))
		}
	}
}

// namesOf looks for each name in turn, so what it tells rises.
func namesOf(e []impl.Term, op int64) []int64 {
	var names []int64
	for n := range int64(256) {
		if slices.Contains(e, impl.Term{Op: op, N: n}) {
			names = append(names, n)
		}
	}
	return names
}

func checkNames(t *testing.T, e []impl.Term) {
	t.Helper()
	variables, arrays := impl.NamesIn(e)
	if want := namesOf(e, impl.TmVar); !slices.Equal(variables, want) {
		t.Errorf("NamesIn of %d Terms %v: variables %v, want %v", len(e), brief(e), variables, want)
	}
	if want := namesOf(e, impl.TmCell); !slices.Equal(arrays, want) {
		t.Errorf("NamesIn of %d Terms %v: arrays %v, want %v", len(e), brief(e), arrays, want)
	}
}

func TestNamesInGoodOnes(t *testing.T) {
	for _, e := range goodExpressions() {
		checkNames(t, e)
	}
}

func TestNamesIn(t *testing.T) {
	add := sign(impl.TmAdd)
	cases := []struct {
		e                 []impl.Term
		variables, arrays []int64
	}{
		{[]impl.Term{num(5)}, nil, nil},
		{[]impl.Term{num(0), sign(impl.TmNot)}, nil, nil},
		{[]impl.Term{variable(0)}, []int64{0}, nil},
		{[]impl.Term{variable(255)}, []int64{255}, nil},
		{[]impl.Term{num(3), cell(0)}, nil, []int64{0}},
		{[]impl.Term{num(3), cell(255)}, nil, []int64{255}},
		{[]impl.Term{variable(7), variable(7), add}, []int64{7}, nil},
		{[]impl.Term{variable(9), variable(4), add, variable(1), add}, []int64{1, 4, 9}, nil},
		{[]impl.Term{variable(4), variable(9), variable(4), sign(impl.TmIf)}, []int64{4, 9}, nil},
		{[]impl.Term{num(0), cell(6), cell(6)}, nil, []int64{6}},
		{[]impl.Term{num(0), cell(6), cell(2), cell(0)}, nil, []int64{0, 2, 6}},
		{[]impl.Term{num(0), cell(2), cell(6), cell(2)}, nil, []int64{2, 6}},
		{[]impl.Term{variable(5), cell(5), num(5), add}, []int64{5}, []int64{5}},
		{[]impl.Term{variable(8), cell(1), variable(3), cell(0), add, variable(8), cell(1), add}, []int64{3, 8}, []int64{0, 1}},
	}
	for _, c := range cases {
		variables, arrays := impl.NamesIn(c.e)
		if !slices.Equal(variables, c.variables) || !slices.Equal(arrays, c.arrays) {
			t.Errorf("NamesIn(%v) = %v, %v; want %v, %v", c.e, variables, arrays, c.variables, c.arrays)
		}
	}
}

// TestAllNamesFalling has every variable and every array there can be, twice.
func TestAllNamesFalling(t *testing.T) {
	e := []impl.Term{num(0)}
	for n := int64(2 * 255); n >= 0; n-- {
		e = append(e, variable(n/2), cell(n/2), sign(impl.TmAdd))
	}
	checkNames(t, e)
	if variables, arrays := impl.NamesIn(e); len(variables) != 256 || len(arrays) != 256 {
		t.Errorf("NamesIn tells %d variables and %d arrays, want 256 of each", len(variables), len(arrays))
	}
}

func checkNoExpression(t *testing.T, e []impl.Term) {
	t.Helper()
	for _, at := range []int64{0, 1, int64(len(e)) / 2, int64(len(e)) - 1} {
		if got := impl.FirstOf(e, at); got != -1 {
			t.Errorf("FirstOf of %d Terms %v at %d = %d, want -1", len(e), brief(e), at, got)
		}
	}
	checkNoPlaces(t, e)
	if got := impl.PartsOf(e); len(got) != 0 {
		t.Errorf("PartsOf of %d Terms %v are %d, want none", len(e), brief(e), len(got))
	}
	if variables, arrays := impl.NamesIn(e); len(variables) != 0 || len(arrays) != 0 {
		t.Errorf("NamesIn of %d Terms %v = %v, %v, want none", len(e), brief(e), variables, arrays)
	}
}

func TestWhatIsNoExpressionIsRefused(t *testing.T) {
	for _, e := range badExpressions() {
		if isExpression(e) {
			t.Fatalf("%d Terms %v are an expression", len(e), brief(e))
		}
		checkNoExpression(t, e)
	}
}

// TestExpressionsOneTermOff changes, drops or doubles one Term of right ones.
func TestExpressionsOneTermOff(t *testing.T) {
	source := rand.New(rand.NewSource(4))
	for _, e := range grownOnes() {
		at := source.Intn(len(e))
		other := slices.Clone(e)
		other[at] = impl.Term{Op: source.Int63n(20) - 1, N: source.Int63n(3) * 128}
		dropped := slices.Delete(slices.Clone(e), at, at+1)
		doubled := slices.Insert(slices.Clone(e), at, e[at])
		for _, off := range [][]impl.Term{other, dropped, doubled} {
			if want := isExpression(off); impl.ExpOk(off) != want {
				t.Errorf("ExpOk(%v) is not %v", off, want)
			} else if !want {
				checkNoExpression(t, off)
			}
		}
	}
}

func TestPartsAreNewAndArgumentsStay(t *testing.T) {
	for _, e := range append(goodExpressions(), badExpressions()...) {
		a := termsArgument(e)
		first := impl.PartsOf(a.list)
		var kept [][]impl.Term
		for _, part := range first {
			kept = append(kept, slices.Clone(part))
		}
		checkApart(t, "PartsOf", impl.Term{Op: spoiledMark, N: spoiledMark}, first...)
		for _, part := range first {
			spoil(part, impl.Term{Op: spoiledMark, N: spoiledMark})
		}
		spoil(first, nil)
		if again := impl.PartsOf(a.list); !slices.EqualFunc(kept, again, slices.Equal) {
			t.Errorf("PartsOf of %d Terms %v: an answer is kept from call to call, or is a part of the argument", len(e), brief(e))
		}
		if !a.untouched() {
			t.Errorf("PartsOf of %d Terms %v writes into its argument", len(e), brief(e))
		}
	}
}

func TestNamesAreNewAndArgumentsStay(t *testing.T) {
	for _, e := range append(goodExpressions(), badExpressions()...) {
		a := termsArgument(e)
		checkFresh(t, "the variables of NamesIn", func() []int64 { got, _ := impl.NamesIn(a.list); return got })
		checkFresh(t, "the arrays of NamesIn", func() []int64 { _, got := impl.NamesIn(a.list); return got })
		variables, arrays := impl.NamesIn(a.list)
		checkApart(t, "NamesIn", spoiledMark, variables, arrays)
		impl.ExpOk(a.list)
		impl.FirstOf(a.list, 0)
		impl.FirstOf(a.list, int64(len(e))-1)
		if !a.untouched() {
			t.Errorf("%d Terms %v: the argument was written into", len(e), brief(e))
		}
	}
}
