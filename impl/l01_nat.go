package impl

import (
	"cmp"
	"sort"
	"strconv"
	"strings"
)

const MaxLimbs = 100
const MaxPower = 1000

const limbBase = 10000

// limbBits bounds the search in BitsFor: a limb is less than 2 to the 14, so
// n limbs are less than 2 to the 14n.
const limbBits = 14

// nat is a great number with the lowest limb first. Its methods do not mind
// MaxLimbs, since a sum or a power on the way may have more limbs than may be
// answered; the exported functions refuse what passes the limit.
type nat []int64

func (a nat) ok() bool {
	if len(a) > MaxLimbs {
		return false
	}
	for _, limb := range a {
		if limb < 0 || limb >= limbBase {
			return false
		}
	}
	return len(a) == 0 || a[len(a)-1] != 0
}

// limb lets numbers of different lengths be added limb by limb.
func (a nat) limb(i int) int64 {
	if i < len(a) {
		return a[i]
	}
	return 0
}

// trimmed leaves one form for each number, so that lengths can be compared.
func (a nat) trimmed() nat {
	n := len(a)
	for n > 0 && a[n-1] == 0 {
		n--
	}
	return a[:n]
}

func (a nat) plus(b nat) nat {
	sum := make(nat, max(len(a), len(b))+1)
	carry := int64(0)
	for i := range sum {
		carry += a.limb(i) + b.limb(i)
		sum[i] = carry % limbBase
		carry /= limbBase
	}
	return sum.trimmed()
}

// minus is only for a b that is at most a: the last borrow is dropped.
func (a nat) minus(b nat) nat {
	rest := make(nat, len(a))
	borrow := int64(0)
	for i := range rest {
		left := a[i] - b.limb(i) - borrow
		borrow = 0
		if left < 0 {
			left += limbBase
			borrow = 1
		}
		rest[i] = left
	}
	return rest.trimmed()
}

func (a nat) times(b nat) nat {
	product := make(nat, len(a)+len(b))
	for i := range a {
		carry := int64(0)
		for j := range b {
			carry += product[i+j] + a[i]*b[j]
			product[i+j] = carry % limbBase
			carry /= limbBase
		}
		product[i+len(b)] = carry
	}
	return product.trimmed()
}

func (a nat) compare(b nat) int64 {
	if len(a) != len(b) {
		return int64(cmp.Compare(len(a), len(b)))
	}
	for i := len(a) - 1; i >= 0; i-- {
		if a[i] != b[i] {
			return int64(cmp.Compare(a[i], b[i]))
		}
	}
	return 0
}

func (a nat) fitsIn(bits int) bool {
	return a.compare(powerOfTwo(bits)) <= 0
}

// text pads every limb but the highest: the noughts within it count.
func (a nat) text() string {
	if len(a) == 0 {
		return "0"
	}
	var out strings.Builder
	high := len(a) - 1
	out.WriteString(strconv.FormatInt(a[high], 10))
	for i := high - 1; i >= 0; i-- {
		out.WriteString(strconv.FormatInt(limbBase+a[i], 10)[1:])
	}
	return out.String()
}

// powerOfTwo squares its way up, as k may be over a thousand.
func powerOfTwo(k int) nat {
	if k == 0 {
		return nat{1}
	}
	half := powerOfTwo(k / 2)
	power := half.times(half)
	if k%2 == 1 {
		return power.plus(power)
	}
	return power
}

// reckon holds the refusals that the sum, the difference and the product
// share: an argument that is no nat, and an answer that would be none.
func reckon(a nat, b nat, by func(nat, nat) nat) ([]int64, bool) {
	if !a.ok() || !b.ok() {
		return nil, false
	}
	answer := by(a, b)
	if !answer.ok() {
		return nil, false
	}
	return answer, true
}

func NatOk(a []int64) bool { return nat(a).ok() }

func NatOf(n int64) []int64 {
	var limbs []int64
	for ; n > 0; n /= limbBase {
		limbs = append(limbs, n%limbBase)
	}
	return limbs
}

func AddNat(a []int64, b []int64) ([]int64, bool) { return reckon(a, b, nat.plus) }

func SubNat(a []int64, b []int64) ([]int64, bool) {
	if CmpNat(a, b) < 0 {
		return nil, false
	}
	return reckon(a, b, nat.minus)
}

func MulNat(a []int64, b []int64) ([]int64, bool) { return reckon(a, b, nat.times) }

func CmpNat(a []int64, b []int64) int64 {
	if !NatOk(a) || !NatOk(b) {
		return 2
	}
	return nat(a).compare(b)
}

func PowerNat(k int64) ([]int64, bool) {
	if k < 0 || k > MaxPower {
		return nil, false
	}
	return powerOfTwo(int(k)), true
}

func BitsFor(a []int64) int64 {
	if !NatOk(a) {
		return -1
	}
	return int64(sort.Search(limbBits*len(a), nat(a).fitsIn))
}

func ShowNat(a []int64) string {
	if !NatOk(a) {
		return ""
	}
	return nat(a).text()
}
