package tests

import (
	"fmt"
	"math"
	"math/rand"
	"slices"
	"strconv"
	"testing"

	"loop.example/g00697/impl"
)

// everyInput lists the values of all Lows and Secrets in the order of their
// numbers: what is listed so far, again for each value of the next one.
func everyInput(p impl.Prog) [][]int64 {
	lists := [][]int64{nil}
	for _, input := range slices.Concat(p.Lows, p.Secrets) {
		var more [][]int64
		for n := range input.Max + 1 {
			for _, list := range lists {
				more = append(more, append(slices.Clone(list), n))
			}
		}
		lists = more
	}
	return lists
}

// bitsOf writes a value in as many digits of base 2 as its Max has, none of 0.
func bitsOf(value, most int64) string {
	if most == 0 {
		return ""
	}
	return fmt.Sprintf("%0*b", len(strconv.FormatInt(most, 2)), value)
}

func bitsOfAll(p impl.Prog, values []int64) string {
	text := ""
	for i, input := range slices.Concat(p.Lows, p.Secrets) {
		text += bitsOf(values[i], input.Max)
	}
	return text
}

func inDigits(bits []bool) string {
	text := ""
	for _, bit := range bits {
		text += strconv.FormatInt(oneWhere(bit), 10)
	}
	return text
}

func withInputs(lows, secrets []impl.Input) impl.Prog {
	return impl.Prog{Width: 8, Lows: lows, Secrets: secrets}
}

// checkInput holds all that is told of one input against what it should be.
func checkInput(t *testing.T, p impl.Prog, number int64, lows, secrets []int64, bits string) {
	t.Helper()
	a, b, is := impl.InputAt(p, number)
	if !is || !slices.Equal(a, lows) || !slices.Equal(b, secrets) {
		t.Errorf("InputAt %d = %v, %v, %v; want %v, %v of %v and %v", number, a, b, is, lows, secrets, p.Lows, p.Secrets)
	}
	if got := impl.NumberOf(p, lows, secrets); got != number {
		t.Errorf("NumberOf %v and %v = %d; want %d of %v and %v", lows, secrets, got, number, p.Lows, p.Secrets)
	}
	if got := inDigits(impl.InputBits(p, lows, secrets)); got != bits {
		t.Errorf("InputBits %v and %v = %q; want %q of %v and %v", lows, secrets, got, bits, p.Lows, p.Secrets)
	}
}

// checkNoNumber: -1 is the number of no input, nor is what is past the last.
func checkNoNumber(t *testing.T, p impl.Prog, number int64) {
	t.Helper()
	if a, b, is := impl.InputAt(p, number); is || len(a)+len(b) != 0 {
		t.Errorf("InputAt %d = %v, %v, %v; want none of %v and %v", number, a, b, is, p.Lows, p.Secrets)
	}
}

func checkNoInput(t *testing.T, name string, p impl.Prog, lows, secrets []int64) {
	t.Helper()
	if got := impl.NumberOf(p, lows, secrets); got != -1 {
		t.Errorf("%s: NumberOf %v and %v = %d; want -1", name, lows, secrets, got)
	}
	if got := impl.InputBits(p, lows, secrets); len(got) != 0 {
		t.Errorf("%s: InputBits %v and %v = %v; want nothing", name, lows, secrets, got)
	}
}

func checkHowMany(t *testing.T, p impl.Prog, count, bits int64) {
	t.Helper()
	if got := impl.InputsIn(p); got != count {
		t.Errorf("InputsIn = %d; want %d of %v and %v", got, count, p.Lows, p.Secrets)
	}
	if got := impl.BitsIn(p); got != bits {
		t.Errorf("BitsIn = %d; want %d of %v and %v", got, bits, p.Lows, p.Secrets)
	}
}

// checkInputs goes through all inputs of a right Prog, and asks for numbers
// that there are not.
func checkInputs(t *testing.T, p impl.Prog) {
	t.Helper()
	all := everyInput(p)
	count := int64(len(all))
	checkHowMany(t, p, count, int64(len(bitsOfAll(p, all[0]))))
	seen := map[string]bool{}
	for n, values := range all {
		bits := bitsOfAll(p, values)
		checkInput(t, p, int64(n), values[:len(p.Lows)], values[len(p.Lows):], bits)
		seen[inDigits(impl.InputBits(p, values[:len(p.Lows)], values[len(p.Lows):]))] = true
	}
	if len(seen) != len(all) {
		t.Errorf("%d inputs have %d different bits, of %v and %v", len(all), len(seen), p.Lows, p.Secrets)
	}
	for _, n := range []int64{-count - 1, -count, 1 - count, -2, -1, count, count + 1, 2 * count, 2*count - 1, math.MinInt64, math.MinInt64 + 1, math.MaxInt64, math.MaxInt64 - 1, math.MinInt64 + count, 1 << 32, 1<<32 + count - 1} {
		if n < 0 || n >= count {
			checkNoNumber(t, p, n)
		}
	}
}

func TestInputsByHand(t *testing.T) {
	cases := []struct {
		lows, secrets []impl.Input
		number        int64
		a, b          []int64
		bits          string
	}{
		{maxes(2, 0), maxes(4), 0, []int64{0, 0}, []int64{0}, "00000"},
		{maxes(2, 0), maxes(4), 1, []int64{1, 0}, []int64{0}, "01000"},
		{maxes(2, 0), maxes(4), 2, []int64{2, 0}, []int64{0}, "10000"},
		{maxes(2, 0), maxes(4), 3, []int64{0, 0}, []int64{1}, "00001"},
		{maxes(2, 0), maxes(4), 4, []int64{1, 0}, []int64{1}, "01001"},
		{maxes(2, 0), maxes(4), 11, []int64{2, 0}, []int64{3}, "10011"},
		{maxes(2, 0), maxes(4), 14, []int64{2, 0}, []int64{4}, "10100"},
		{maxes(9), nil, 6, []int64{6}, nil, "0110"},
		{nil, maxes(9), 6, nil, []int64{6}, "0110"},
		{maxes(1, 2), nil, 3, []int64{1, 1}, nil, "101"},
		{maxes(2, 1), nil, 3, []int64{0, 1}, nil, "001"},
		{nil, maxes(1, 2), 3, nil, []int64{1, 1}, "101"},
		{nil, maxes(2, 1), 3, nil, []int64{0, 1}, "001"},
		{maxes(1), maxes(2), 3, []int64{1}, []int64{1}, "101"},
		{maxes(2), maxes(1), 3, []int64{0}, []int64{1}, "001"},
		{maxes(9), maxes(9), 47, []int64{7}, []int64{4}, "01110100"},
		{maxes(4, 4), maxes(4), 38, []int64{3, 2}, []int64{1}, "011010001"},
		{maxes(4), maxes(4, 4), 38, []int64{3}, []int64{2, 1}, "011010001"},
		{maxes(1, 1, 1), maxes(1, 1, 1), 0b010011, []int64{1, 1, 0}, []int64{0, 1, 0}, "110010"},
		{maxes(2, 1, 2), maxes(1, 2, 1), 1 + 3*0 + 6*2 + 18*1 + 36*2 + 108*0, []int64{1, 0, 2}, []int64{1, 2, 0}, "010101100"},
		{maxes(255), maxes(3), 255, []int64{255}, []int64{0}, "1111111100"},
		{maxes(255), maxes(3), 256, []int64{0}, []int64{1}, "0000000001"},
		{maxes(255), maxes(3), 1023, []int64{255}, []int64{3}, "1111111111"},
		{maxes(128), nil, 128, []int64{128}, nil, "10000000"},
		{maxes(128), nil, 127, []int64{127}, nil, "01111111"},
		{nil, nil, 0, nil, nil, ""},
		{maxes(0), nil, 0, []int64{0}, nil, ""},
		{nil, maxes(0), 0, nil, []int64{0}, ""},
		{maxes(0, 0, 0), maxes(0, 0, 0), 0, []int64{0, 0, 0}, []int64{0, 0, 0}, ""},
		{maxes(0, 5, 0), maxes(0, 0, 2), 16, []int64{0, 4, 0}, []int64{0, 0, 2}, "10010"},
	}
	for _, c := range cases {
		checkInput(t, withInputs(c.lows, c.secrets), c.number, c.a, c.b, c.bits)
	}
}

func TestHowManyInputsThereAre(t *testing.T) {
	cases := []struct {
		lows, secrets []impl.Input
		count, bits   int64
	}{
		{nil, nil, 1, 0}, {maxes(0), nil, 1, 0}, {nil, maxes(0), 1, 0}, {maxes(0, 0, 0), maxes(0, 0, 0), 1, 0},
		{maxes(1), nil, 2, 1}, {maxes(2), nil, 3, 2}, {maxes(3), nil, 4, 2}, {maxes(4), nil, 5, 3}, {nil, maxes(7), 8, 3}, {nil, maxes(8), 9, 4},
		{maxes(127), nil, 128, 7}, {maxes(128), nil, 129, 8}, {maxes(129), nil, 130, 8}, {maxes(254), nil, 255, 8}, {nil, maxes(255), 256, 8},
		{maxes(2, 0), maxes(4), 15, 5}, {maxes(9), maxes(9), 100, 8}, {maxes(4, 4), maxes(4), 125, 9},
		{maxes(255), maxes(3), 1024, 10}, {maxes(255, 0, 1), maxes(0, 1, 0), 1024, 10}, {maxes(3, 3, 1), maxes(3, 3, 1), 1024, 10}, {maxes(128), maxes(2), 387, 10},
		{maxes(2, 2, 1), maxes(2, 2, 1), 324, 10}, {nil, maxes(15, 7, 7), 1024, 10}, {maxes(16, 16), nil, 289, 10}, {maxes(0), maxes(0, 31, 31), 1024, 10},
	}
	for _, c := range cases {
		p := withInputs(c.lows, c.secrets)
		checkHowMany(t, p, c.count, c.bits)
		checkInputs(t, p)
	}
	checkHowMany(t, roomy(), 8*2*6, 3+1+3)
	checkHowMany(t, fullest(), 4*2*16*8, 2+1+4+3)
}

// TestEachMaxOfEachWidth has 0, 1, every power of 2 and the greatest Max that
// the Width allows; what is past it is no Prog.
func TestEachMaxOfEachWidth(t *testing.T) {
	for width := int64(1); width <= 8; width++ {
		greatest := int64(1)<<width - 1
		for most := range greatest + 1 {
			checkInputs(t, impl.Prog{Width: width, Lows: maxes(most)})
			checkInputs(t, impl.Prog{Width: width, Secrets: maxes(most)})
		}
		checkNoneOf(t, "a Low past the Width", impl.Prog{Width: width, Lows: maxes(greatest + 1)}, []int64{0}, nil)
		checkNoneOf(t, "a Secret past the Width", impl.Prog{Width: width, Secrets: maxes(greatest + 1)}, nil, []int64{0})
	}
}

// TestHowManyOfEachKind: none to three Lows and Secrets, each of 0, 1 or 2, as
// far as there are bits.
func TestHowManyOfEachKind(t *testing.T) {
	count := 0
	for lows := range 4 {
		for secrets := range 4 {
			all := everyInput(impl.Prog{Lows: maxes(slices.Repeat([]int64{2}, lows+secrets)...)})
			for _, list := range all {
				p := withInputs(maxes(list[:lows]...), maxes(list[lows:]...))
				if impl.ProgOk(p) {
					checkInputs(t, p)
					count++
				}
			}
		}
	}
	if count < 1000 {
		t.Errorf("%d programs: too few to tell", count)
	}
}

// TestAMaxOfNought puts one at each place of a Prog: it has no bits, and all
// others are told as if it were not there.
func TestAMaxOfNought(t *testing.T) {
	for _, list := range [][]int64{{}, {1}, {5}, {2, 3}, {3, 1, 6}, {3, 1, 4, 2}, {255, 3}} {
		for lows := range len(list) + 1 {
			p := withInputs(maxes(list[:lows]...), maxes(list[lows:]...))
			if !impl.ProgOk(p) {
				continue
			}
			for at := range len(list) + 1 {
				checkNoughtAt(t, p, at, true)
				checkNoughtAt(t, p, at, false)
			}
		}
	}
}

func checkNoughtAt(t *testing.T, p impl.Prog, at int, low bool) {
	t.Helper()
	with := p
	switch {
	case low && at <= len(p.Lows) && len(p.Lows) < 3:
		with.Lows = slices.Insert(slices.Clone(p.Lows), at, impl.Input{})
	case !low && at >= len(p.Lows) && len(p.Secrets) < 3:
		with.Secrets = slices.Insert(slices.Clone(p.Secrets), at-len(p.Lows), impl.Input{})
	default:
		return
	}
	checkInputs(t, with)
	checkHowMany(t, with, impl.InputsIn(p), impl.BitsIn(p))
	for n := range impl.InputsIn(p) {
		a, b, _ := impl.InputAt(p, n)
		bits := inDigits(impl.InputBits(p, a, b))
		values := slices.Insert(slices.Concat(a, b), at, 0)
		checkInput(t, with, n, values[:len(with.Lows)], values[len(with.Lows):], bits)
		values[at] = 1
		checkNoInput(t, "1 where Max is 0", with, values[:len(with.Lows)], values[len(with.Lows):])
		values[at] = -1
		checkNoInput(t, "-1 where Max is 0", with, values[:len(with.Lows)], values[len(with.Lows):])
	}
}

// TestOrderOfNumbers: each input alone, at 1, counts as many as those ahead of
// it can have together.
func TestOrderOfNumbers(t *testing.T) {
	source := rand.New(rand.NewSource(71))
	for range 500 {
		p := grownProg(source)
		values := make([]int64, len(p.Lows)+len(p.Secrets))
		weight := int64(1)
		for i, input := range slices.Concat(p.Lows, p.Secrets) {
			for n := range input.Max + 1 {
				values[i] = n
				if got := impl.NumberOf(p, values[:len(p.Lows)], values[len(p.Lows):]); got != n*weight {
					t.Errorf("NumberOf %v = %d; want %d of %v and %v", values, got, n*weight, p.Lows, p.Secrets)
				}
			}
			values[i] = 0
			weight *= input.Max + 1
		}
		lasts := slices.Concat(lastsOf(p.Lows), lastsOf(p.Secrets))
		checkInput(t, p, 0, values[:len(p.Lows)], values[len(p.Lows):], bitsOfAll(p, values))
		checkInput(t, p, weight-1, lasts[:len(p.Lows)], lasts[len(p.Lows):], bitsOfAll(p, lasts))
		checkHowMany(t, p, weight, int64(len(bitsOfAll(p, values))))
	}
}

// TestNumberLeadsBack is the promise, over all inputs of many programs.
func TestNumberLeadsBack(t *testing.T) {
	source := rand.New(rand.NewSource(72))
	inputs, bare, most := int64(0), 0, 0
	for range 300 {
		p := grownProg(source)
		count := impl.InputsIn(p)
		for n := range count {
			lows, secrets, is := impl.InputAt(p, n)
			if _, starts := impl.StartOf(p, lows, secrets); !is || !starts || impl.NumberOf(p, lows, secrets) != n {
				t.Errorf("input %d is %v and %v, %v; its number is %d", n, lows, secrets, is, impl.NumberOf(p, lows, secrets))
			}
		}
		for range 5 {
			lows, secrets := grownValues(source, p.Lows), grownValues(source, p.Secrets)
			a, b, is := impl.InputAt(p, impl.NumberOf(p, lows, secrets))
			if !is || !slices.Equal(a, lows) || !slices.Equal(b, secrets) {
				t.Errorf("%v and %v lead to %v and %v, %v", lows, secrets, a, b, is)
			}
		}
		checkInputs(t, p)
		inputs += count
		bare += int(oneWhere(len(p.Lows) == 0 || len(p.Secrets) == 0))
		most += int(oneWhere(len(p.Lows)+len(p.Secrets) == 6))
	}
	if inputs < 20000 || bare < 30 || most < 8 {
		t.Errorf("%d inputs, %d programs with none of a kind, %d with all: too few to tell", inputs, bare, most)
	}
}

// TestBitsTellInputsApart holds each pair of inputs against each other.
func TestBitsTellInputsApart(t *testing.T) {
	for _, p := range []impl.Prog{withInputs(maxes(2, 0), maxes(4)), withInputs(maxes(1, 2), maxes(2, 1)), withInputs(maxes(6), maxes(6)), withInputs(maxes(0, 4, 1), maxes(3, 0, 1)), withInputs(nil, maxes(9, 3)), withInputs(maxes(40), nil)} {
		all := everyInput(p)
		for i, a := range all {
			for k, b := range all {
				first := impl.InputBits(p, a[:len(p.Lows)], a[len(p.Lows):])
				second := impl.InputBits(p, b[:len(p.Lows)], b[len(p.Lows):])
				if slices.Equal(first, second) != (i == k) || int64(len(first)) != impl.BitsIn(p) {
					t.Errorf("%v is %v, %v is %v", a, first, b, second)
				}
			}
		}
	}
}

// TestValuesThatNoInputHas: those next to the first and the last one, and far
// ones, at each place.
func TestValuesThatNoInputHas(t *testing.T) {
	for _, p := range []impl.Prog{roomy(), fullest(), withInputs(maxes(255), nil), withInputs(nil, maxes(255, 2)), withInputs(maxes(0), maxes(0)), withInputs(maxes(1, 2, 3), maxes(1, 2, 1))} {
		lows, secrets := lastsOf(p.Lows), lastsOf(p.Secrets)
		for _, list := range [][]int64{lows, secrets} {
			for at, most := range list {
				for _, n := range append([]int64{-most - 1, -2, -1, 0, 1, most - 1, most, most + 1, most + 2, 2*most + 1}, far...) {
					list[at] = n
					if n >= 0 && n <= most {
						values := slices.Concat(lows, secrets)
						checkInput(t, p, int64(slices.IndexFunc(everyInput(p), func(one []int64) bool { return slices.Equal(one, values) })), lows, secrets, bitsOfAll(p, values))
					} else {
						checkNoInput(t, fmt.Sprintf("%d where %d is the last", n, most), p, lows, secrets)
					}
				}
				list[at] = most
			}
		}
	}
}

// TestHowManyValuesAnInputHas: one too many or too few of a kind, though the
// others make up for it.
func TestHowManyValuesAnInputHas(t *testing.T) {
	for lows := range 4 {
		for secrets := range 4 {
			p := withInputs(maxes(slices.Repeat([]int64{1}, lows)...), maxes(slices.Repeat([]int64{1}, secrets)...))
			for a := range 8 {
				for b := range 8 {
					first, second := slices.Repeat([]int64{1}, a), slices.Repeat([]int64{1}, b)
					if a != lows || b != secrets {
						checkNoInput(t, "another count", p, first, second)
						checkNoInput(t, "another count", p, make([]int64, a), make([]int64, b))
						continue
					}
					checkInput(t, p, 1<<(lows+secrets)-1, first, second, bitsOfAll(p, slices.Concat(first, second)))
				}
			}
			many := make([]int64, 5000)
			checkNoInput(t, "many Lows", p, many, make([]int64, secrets))
			checkNoInput(t, "many Secrets", p, make([]int64, lows), many)
		}
	}
}

// checkNoneOf: a Prog that is not right has no inputs at all.
func checkNoneOf(t *testing.T, name string, p impl.Prog, lows, secrets []int64) {
	t.Helper()
	if impl.ProgOk(p) {
		t.Errorf("%s is right", name)
	}
	checkHowMany(t, p, -1, -1)
	for _, n := range []int64{-1, 0, 1, 7, 1023, 1024, math.MinInt64, math.MaxInt64} {
		checkNoNumber(t, p, n)
	}
	checkNoInput(t, name, p, lows, secrets)
}

func TestInputsOfProgramsThatAreNotRight(t *testing.T) {
	for _, f := range allFaults() {
		p := broken(f)
		checkNoneOf(t, f.name, p, make([]int64, len(p.Lows)), make([]int64, len(p.Secrets)))
		checkNoneOf(t, f.name, p, nil, nil)
		checkNoneOf(t, f.name, p, []int64{1}, []int64{1})
		checkNoneOf(t, f.name, p, []int64{-1}, []int64{2})
	}
	checkInputs(t, broken())
	checkNoneOf(t, "the zero Prog", impl.Prog{}, nil, nil)
	for _, width := range append([]int64{-8, -1, 0, 9, 62, 63, 64, 65}, far...) {
		checkNoneOf(t, fmt.Sprintf("Width %d", width), impl.Prog{Width: width, Lows: maxes(1)}, []int64{1}, nil)
	}
	for _, most := range append([]int64{-2, -1, 256, 257}, far[3:]...) {
		checkNoneOf(t, fmt.Sprintf("a Low with a Max of %d", most), withInputs(maxes(1, most), maxes(1)), []int64{0, 0}, []int64{0})
		checkNoneOf(t, fmt.Sprintf("a Secret with a Max of %d", most), withInputs(maxes(1), maxes(most, 1)), []int64{0}, []int64{0, 0})
	}
	checkNoneOf(t, "eleven bits of Lows", withInputs(maxes(31, 31, 1), nil), []int64{0, 0, 0}, nil)
	checkNoneOf(t, "eleven bits of Secrets", withInputs(nil, maxes(32, 31)), nil, []int64{0, 0})
	checkNoneOf(t, "eleven bits", withInputs(maxes(3, 3, 1), maxes(3, 3, 2)), []int64{0, 0, 0}, []int64{0, 0, 0})
}

// askAllOfInput spoils each answer and asks again.
func askAllOfInput(t *testing.T, p impl.Prog, lows, secrets []int64) {
	t.Helper()
	number, count, width := impl.NumberOf(p, lows, secrets), impl.InputsIn(p), impl.BitsIn(p)
	for _, n := range []int64{number, 0, count - 1, -1, 1 << 40} {
		a, b, is := impl.InputAt(p, n)
		first, second := slices.Clone(a), slices.Clone(b)
		checkApart(t, "InputAt", spoiledMark, a, b)
		spoil(a, spoiledMark)
		spoil(b, spoiledMark)
		if c, d, again := impl.InputAt(p, n); again != is || !slices.Equal(c, first) || !slices.Equal(d, second) {
			t.Errorf("InputAt %d is %v and %v, then %v and %v: it is kept from call to call", n, first, second, c, d)
		}
	}
	bits := impl.InputBits(p, lows, secrets)
	kept := slices.Clone(bits)
	for _, mark := range []bool{true, false} {
		spoil(bits, mark)
		if again := impl.InputBits(p, lows, secrets); !slices.Equal(again, kept) {
			t.Errorf("InputBits is %v, then %v: it is kept from call to call", kept, again)
		}
	}
	if impl.NumberOf(p, lows, secrets) != number || impl.InputsIn(p) != count || impl.BitsIn(p) != width {
		t.Errorf("NumberOf, BitsIn or InputsIn tells something else when asked again")
	}
}

func checkInputStays(t *testing.T, name string, p impl.Prog, lows, secrets []int64) {
	t.Helper()
	a, b := argumentOf(lows), argumentOf(secrets)
	checkStays(t, name, p, func(given impl.Prog) { askAllOfInput(t, given, a.list, b.list) })
	if !a.untouched() || !b.untouched() {
		t.Errorf("%s: %v and %v were %v and %v", name, a.list[:cap(a.list)], b.list[:cap(b.list)], a.kept, b.kept)
	}
}

func TestInputAnswersAreNewAndArgumentsStay(t *testing.T) {
	source := rand.New(rand.NewSource(73))
	for range 400 {
		p := grownProg(source)
		checkInputStays(t, "a right Prog", p, grownValues(source, p.Lows), grownValues(source, p.Secrets))
		checkInputStays(t, "a Secret too many", p, make([]int64, len(p.Lows)), make([]int64, len(p.Secrets)+1))
	}
	for _, f := range allFaults() {
		p := broken(f)
		checkInputStays(t, f.name, p, make([]int64, len(p.Lows)), make([]int64, len(p.Secrets)))
	}
	for _, none := range [][]int64{nil, {}} {
		checkInput(t, withInputs(nil, nil), 0, none, none, "")
		checkInput(t, withInputs(nil, maxes(3)), 2, none, []int64{2}, "10")
		checkInput(t, withInputs(maxes(3), nil), 2, []int64{2}, none, "10")
	}
}
