package tests

import (
	"math"
	"math/big"
	"math/rand"
	"slices"
	"testing"

	"loop.example/g00697/impl"
)

// repeated is a list of count limbs that are alike.
func repeated(limb int64, count int) []int64 {
	return slices.Repeat([]int64{limb}, count)
}

// shifted is limb with count noughts below it.
func shifted(limb int64, count int) []int64 {
	return append(make([]int64, count), limb)
}

func bigOf(a []int64) *big.Int {
	sum := new(big.Int)
	for i := len(a) - 1; i >= 0; i-- {
		sum.Mul(sum, big.NewInt(10000))
		sum.Add(sum, big.NewInt(a[i]))
	}
	return sum
}

func limbsOf(n *big.Int) []int64 {
	var limbs []int64
	rest, limb := new(big.Int).Set(n), new(big.Int)
	for rest.Sign() > 0 {
		rest.DivMod(rest, big.NewInt(10000), limb)
		limbs = append(limbs, limb.Int64())
	}
	return limbs
}

// goodNats are right ones: ordinary, at the edges, and some by a fixed seed.
func goodNats() [][]int64 {
	nats := [][]int64{
		nil, {}, {1}, {2}, {7}, {9999}, {0, 1}, {1, 1}, {9999, 9999}, {0, 0, 1}, {7, 0, 3}, {6789, 2345, 1},
		{0, 9999, 0, 1}, {1, 0, 0, 0, 1}, repeated(9999, 6), shifted(1, 6),
		repeated(9999, 49), repeated(9999, 50), repeated(9999, 51), shifted(1, 49), shifted(1, 50), shifted(1, 51),
		repeated(9999, 99), repeated(9999, 100), shifted(1, 98), shifted(1, 99), shifted(5000, 99), shifted(4999, 99), shifted(9999, 99), repeated(1, 100),
	}
	source := rand.New(rand.NewSource(1))
	for length := 1; length <= impl.MaxLimbs; length += 1 + source.Intn(9) {
		one := make([]int64, length)
		for i := range one {
			one[i] = source.Int63n(10000)
			if source.Intn(4) == 0 {
				one[i] = 9999 * source.Int63n(2)
			}
		}
		one[length-1] = 1 + source.Int63n(9999)
		nats = append(nats, one)
	}
	return nats
}

// badNats are lists that are not NatOk, for each of the reasons.
func badNats() [][]int64 {
	return [][]int64{
		{-1}, {-1, 1}, {1, -1}, {5, -1, 5}, {math.MinInt64}, {1, math.MinInt64, 1},
		{10000}, {10000, 1}, {1, 10000}, {5, 10000, 5}, {math.MaxInt64}, {1, math.MaxInt64, 1},
		{0}, {0, 0}, {1, 0}, {5, 5, 0}, {9999, 0}, append(repeated(9999, 99), 0), repeated(0, 100),
		repeated(1, 101), repeated(9999, 101), shifted(1, 100), repeated(0, 101), append(repeated(1, 100), 0), repeated(1, 5000),
		append([]int64{-1}, repeated(1, 99)...), append(repeated(1, 99), 10000), append(repeated(1, 99), -1),
	}
}

// checkResult holds an answer against the number it should be (nil: refused).
func checkResult(t *testing.T, name string, a, b, got []int64, is bool, want *big.Int) {
	t.Helper()
	var limbs []int64
	if want != nil {
		limbs = limbsOf(want)
	}
	fits := want != nil && len(limbs) <= impl.MaxLimbs
	if !fits {
		limbs = nil
	}
	if is != fits || !slices.Equal(got, limbs) {
		t.Errorf("%s(%v, %v) = %v, %v; want %v, %v", name, a, b, got, is, limbs, fits)
	}
}

func TestNatOk(t *testing.T) {
	for _, a := range goodNats() {
		if !impl.NatOk(a) {
			t.Errorf("NatOk(%v) is false", a)
		}
	}
	for _, a := range badNats() {
		if impl.NatOk(a) {
			t.Errorf("NatOk(%v) is true", a)
		}
	}
}

func TestNatOf(t *testing.T) {
	cases := []struct {
		n    int64
		want []int64
	}{
		{0, nil}, {1, []int64{1}}, {9999, []int64{9999}}, {10000, []int64{0, 1}}, {10001, []int64{1, 1}},
		{99999999, []int64{9999, 9999}}, {100000000, []int64{0, 0, 1}}, {123456789, []int64{6789, 2345, 1}},
		{700000003, []int64{3, 0, 7}}, {math.MaxInt64, []int64{5807, 5477, 368, 3372, 922}},
		{-1, nil}, {-10000, nil}, {math.MinInt64, nil}, {math.MinInt64 + 1, nil},
	}
	for _, c := range cases {
		got := impl.NatOf(c.n)
		if !slices.Equal(got, c.want) {
			t.Errorf("NatOf(%d) = %v, want %v", c.n, got, c.want)
		}
		if !impl.NatOk(got) {
			t.Errorf("NatOf(%d) = %v is not NatOk", c.n, got)
		}
	}
}

func TestNatsAreReckonedAsNumbers(t *testing.T) {
	nats := goodNats()
	for _, a := range nats {
		for _, b := range nats {
			x, y := bigOf(a), bigOf(b)
			sum, is := impl.AddNat(a, b)
			checkResult(t, "AddNat", a, b, sum, is, new(big.Int).Add(x, y))
			product, is := impl.MulNat(a, b)
			checkResult(t, "MulNat", a, b, product, is, new(big.Int).Mul(x, y))
			var less *big.Int
			if x.Cmp(y) >= 0 {
				less = new(big.Int).Sub(x, y)
			}
			rest, is := impl.SubNat(a, b)
			checkResult(t, "SubNat", a, b, rest, is, less)
			if got := impl.CmpNat(a, b); got != int64(x.Cmp(y)) {
				t.Errorf("CmpNat(%v, %v) = %d, want %d", a, b, got, x.Cmp(y))
			}
		}
	}
}

func TestAddNatCarries(t *testing.T) {
	cases := []struct{ a, b, want []int64 }{
		{nil, nil, nil},
		{nil, []int64{5}, []int64{5}},
		{[]int64{5}, nil, []int64{5}},
		{[]int64{9999}, []int64{1}, []int64{0, 1}},
		{[]int64{1}, repeated(9999, 5), shifted(1, 5)},
		{repeated(9999, 5), []int64{1}, shifted(1, 5)},
		{repeated(9999, 3), repeated(9999, 3), []int64{9998, 9999, 9999, 1}},
		{repeated(9999, 99), []int64{1}, shifted(1, 99)},
		{shifted(9998, 99), shifted(1, 99), shifted(9999, 99)},
	}
	for _, c := range cases {
		if got, is := impl.AddNat(c.a, c.b); !is || !slices.Equal(got, c.want) {
			t.Errorf("AddNat(%v, %v) = %v, %v; want %v", c.a, c.b, got, is, c.want)
		}
	}
	for _, c := range [][2][]int64{{repeated(9999, 100), {1}}, {{1}, repeated(9999, 100)}, {shifted(5000, 99), shifted(5000, 99)}} {
		if got, is := impl.AddNat(c[0], c[1]); is || len(got) != 0 {
			t.Errorf("AddNat(%v, %v) = %v, %v; a sum of 101 limbs is none", c[0], c[1], got, is)
		}
	}
}

func TestSubNatBorrows(t *testing.T) {
	cases := []struct{ a, b, want []int64 }{
		{nil, nil, nil},
		{[]int64{5}, nil, []int64{5}},
		{[]int64{0, 1}, []int64{1}, []int64{9999}},
		{shifted(1, 5), []int64{1}, repeated(9999, 5)},
		{shifted(1, 99), []int64{1}, repeated(9999, 99)},
		{[]int64{3, 2, 1}, []int64{3, 2, 1}, nil},
		{repeated(9999, 100), repeated(9999, 100), nil},
		{[]int64{7, 0, 0, 5}, []int64{0, 0, 0, 5}, []int64{7}},
		{[]int64{0, 0, 5}, []int64{1, 0, 4}, []int64{9999, 9999}},
	}
	for _, c := range cases {
		if got, is := impl.SubNat(c.a, c.b); !is || !slices.Equal(got, c.want) {
			t.Errorf("SubNat(%v, %v) = %v, %v; want %v", c.a, c.b, got, is, c.want)
		}
	}
	for _, c := range [][2][]int64{{nil, {1}}, {{1}, {2}}, {{9999}, {0, 1}}, {{9999, 1}, {0, 2}}, {shifted(1, 98), shifted(1, 99)}} {
		if got, is := impl.SubNat(c[0], c[1]); is || len(got) != 0 {
			t.Errorf("SubNat(%v, %v) = %v, %v; it is below 0", c[0], c[1], got, is)
		}
	}
}

func TestMulNatAtTheLimit(t *testing.T) {
	cases := []struct{ a, b, want []int64 }{
		{nil, nil, nil},
		{nil, repeated(9999, 100), nil},
		{repeated(9999, 100), nil, nil},
		{[]int64{1}, repeated(9999, 100), repeated(9999, 100)},
		{repeated(9999, 100), []int64{1}, repeated(9999, 100)},
		{[]int64{9999}, []int64{9999}, []int64{1, 9998}},
		{shifted(1, 50), shifted(1, 49), shifted(1, 99)},
		{repeated(9999, 50), append([]int64{1}, shifted(1, 49)...), repeated(9999, 100)},
		{repeated(9999, 50), repeated(9999, 50), append(append([]int64{1}, repeated(0, 49)...), append([]int64{9998}, repeated(9999, 49)...)...)},
	}
	for _, c := range cases {
		if got, is := impl.MulNat(c.a, c.b); !is || !slices.Equal(got, c.want) {
			t.Errorf("MulNat(%v, %v) = %v, %v; want %v", c.a, c.b, got, is, c.want)
		}
	}
	for _, c := range [][2][]int64{{shifted(1, 50), shifted(1, 50)}, {shifted(5000, 99), {2}}, {{2}, shifted(5000, 99)}, {repeated(9999, 100), repeated(9999, 100)}} {
		if got, is := impl.MulNat(c[0], c[1]); is || len(got) != 0 {
			t.Errorf("MulNat(%v, %v) = %v, %v; a product of more than 100 limbs is none", c[0], c[1], got, is)
		}
	}
}

func TestPowerNat(t *testing.T) {
	for k := int64(0); k <= impl.MaxPower; k++ {
		want := limbsOf(new(big.Int).Lsh(big.NewInt(1), uint(k)))
		if got, is := impl.PowerNat(k); !is || !slices.Equal(got, want) {
			t.Errorf("PowerNat(%d) = %v, %v; want %v", k, got, is, want)
		}
	}
	for _, k := range []int64{-1, -1000, math.MinInt64, 1001, 1002, math.MaxInt64} {
		if got, is := impl.PowerNat(k); is || len(got) != 0 {
			t.Errorf("PowerNat(%d) = %v, %v; want nothing", k, got, is)
		}
	}
}

// TestBitsFor goes past MaxPower: the greatest nat needs 1329 bits.
func TestBitsFor(t *testing.T) {
	for a, want := range []int64{0, 0, 1, 2, 2, 3, 3, 3, 3, 4} {
		if got := impl.BitsFor(impl.NatOf(int64(a))); got != want {
			t.Errorf("BitsFor(%d) = %d, want %d", a, got, want)
		}
	}
	one := big.NewInt(1)
	for k := int64(2); k <= 1328; k++ {
		power := new(big.Int).Lsh(one, uint(k))
		below, above := new(big.Int).Sub(power, one), new(big.Int).Add(power, one)
		for _, c := range []struct {
			n    *big.Int
			want int64
		}{{below, k}, {power, k}, {above, k + 1}} {
			if got := impl.BitsFor(limbsOf(c.n)); got != c.want {
				t.Errorf("BitsFor(%v) = %d, want %d", c.n, got, c.want)
			}
		}
	}
	for _, a := range goodNats() {
		want := int64(0)
		if n := bigOf(a); n.Sign() > 0 {
			want = int64(n.Sub(n, one).BitLen())
		}
		if got := impl.BitsFor(a); got != want {
			t.Errorf("BitsFor(%v) = %d, want %d", a, got, want)
		}
	}
	if got := impl.BitsFor(repeated(9999, 100)); got != 1329 {
		t.Errorf("BitsFor of the greatest nat = %d, want 1329", got)
	}
}

func TestShowNat(t *testing.T) {
	cases := []struct {
		a    []int64
		want string
	}{
		{nil, "0"}, {[]int64{}, "0"}, {[]int64{1}, "1"}, {[]int64{9999}, "9999"}, {[]int64{0, 1}, "10000"},
		{[]int64{7, 0, 3}, "300000007"}, {[]int64{10, 200, 30}, "3002000010"}, {[]int64{5, 40, 300, 2000}, "2000030000400005"},
		{[]int64{0, 0, 0, 12}, "12000000000000"}, {[]int64{6789, 2345, 1}, "123456789"},
	}
	for _, c := range cases {
		if got := impl.ShowNat(c.a); got != c.want {
			t.Errorf("ShowNat(%v) = %q, want %q", c.a, got, c.want)
		}
	}
	for _, a := range goodNats() {
		if got := impl.ShowNat(a); got != bigOf(a).String() {
			t.Errorf("ShowNat(%v) = %q, want %q", a, got, bigOf(a).String())
		}
	}
}

func TestWhatIsNoNatIsRefusedAlone(t *testing.T) {
	for _, a := range badNats() {
		if got := impl.BitsFor(a); got != -1 {
			t.Errorf("BitsFor(%v) = %d, want -1", a, got)
		}
		if got := impl.ShowNat(a); got != "" {
			t.Errorf("ShowNat(%v) = %q, want none", a, got)
		}
	}
}

func checkRefused(t *testing.T, a, b []int64) {
	t.Helper()
	if got, is := impl.AddNat(a, b); is || len(got) != 0 {
		t.Errorf("AddNat(%v, %v) = %v, %v", a, b, got, is)
	}
	if got, is := impl.SubNat(a, b); is || len(got) != 0 {
		t.Errorf("SubNat(%v, %v) = %v, %v", a, b, got, is)
	}
	if got, is := impl.MulNat(a, b); is || len(got) != 0 {
		t.Errorf("MulNat(%v, %v) = %v, %v", a, b, got, is)
	}
	if got := impl.CmpNat(a, b); got != 2 {
		t.Errorf("CmpNat(%v, %v) = %d, want 2", a, b, got)
	}
}

func TestWhatIsNoNatIsRefusedOnEitherSide(t *testing.T) {
	for _, bad := range badNats() {
		for _, good := range goodNats() {
			checkRefused(t, bad, good)
			checkRefused(t, good, bad)
		}
		for _, other := range badNats() {
			checkRefused(t, bad, other)
		}
	}
}

func TestNatAnswersAreNewAndArgumentsStay(t *testing.T) {
	lists := append(goodNats(), badNats()...)
	for _, x := range lists {
		for _, y := range [][]int64{nil, {1}, {0, 1}, {-1}, {0}, x} {
			a, b := argumentOf(x), argumentOf(y)
			checkFresh(t, "AddNat", func() []int64 { got, _ := impl.AddNat(a.list, b.list); return got }, a, b)
			checkFresh(t, "AddNat", func() []int64 { got, _ := impl.AddNat(b.list, a.list); return got }, a, b)
			checkFresh(t, "AddNat of one list twice", func() []int64 { got, _ := impl.AddNat(a.list, a.list); return got }, a)
			checkFresh(t, "SubNat", func() []int64 { got, _ := impl.SubNat(a.list, b.list); return got }, a, b)
			checkFresh(t, "SubNat of one list twice", func() []int64 { got, _ := impl.SubNat(a.list, a.list); return got }, a)
			checkFresh(t, "MulNat", func() []int64 { got, _ := impl.MulNat(a.list, b.list); return got }, a, b)
			checkFresh(t, "MulNat", func() []int64 { got, _ := impl.MulNat(b.list, a.list); return got }, a, b)
			checkFresh(t, "CmpNat", func() []int64 { return []int64{impl.CmpNat(a.list, b.list)} }, a, b)
		}
		a := argumentOf(x)
		impl.NatOk(a.list)
		impl.BitsFor(a.list)
		impl.ShowNat(a.list)
		if !a.untouched() {
			t.Errorf("argument was %v, is %v", a.kept, a.list)
		}
	}
	for _, n := range []int64{-1, 0, 1, 10000, 1000, math.MaxInt64} {
		checkFresh(t, "NatOf", func() []int64 { return impl.NatOf(n) })
		checkFresh(t, "PowerNat", func() []int64 { got, _ := impl.PowerNat(n); return got })
	}
}
