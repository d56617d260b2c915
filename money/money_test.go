package money_test

import (
	"math"
	"math/big"
	"slices"
	"testing"

	"cambist/api"
	"cambist/money"
)

// most is the greatest amount, by the chapter's own figure.
const most = 1125899906842624

// wrongs are ints that are no amounts, some of which a careless sum or product turns into one.
var wrongs = []int{math.MinInt, math.MinInt + 1, math.MinInt + 8, math.MinInt + most, -most - 1, -most, -most + 1, -math.MaxInt32, -2, -1, most + 1, most + 2, 2 * most, 1 << 51, 1 << 62, math.MaxInt - most, math.MaxInt - 1, math.MaxInt}

// amounts are amounts of all sorts: the least and the greatest ones, those about whole powers of two, and some between.
func amounts() []int {
	l := []int{0, 1, 2, 3, 5, 7, 10, 999, 1000000007, 123456789012345, most / 3, most/3*2 + 1, most - 12345, most - 2, most - 1, most}
	for shift := 2; shift < 50; shift += 3 {
		l = append(l, 1<<shift-1, 1<<shift, 1<<shift+1)
	}
	return append(l, 1<<25-1, 1<<25+1, 1<<24, 1<<26, 1<<49-1, 1<<49+1)
}

// mixed are count amounts of all sizes, the same ones for the same seed.
func mixed(count, seed int) []int {
	l := make([]int, count)
	u := uint64(seed)*2654435769 + 1
	for i := range l {
		u = u*6364136223846793005 + 1442695040888963407
		l[i] = int(u >> 14 >> (u >> 8 % 50))
	}
	return l
}

func wantMay(t *testing.T, n int, want bool) {
	t.Helper()
	if got := money.May(n); got != want {
		t.Errorf("May(%d) = %t, want %t", n, got, want)
	}
}

func want(t *testing.T, what string, numbers []int, got int, err api.Errno, wanted int, wantErr api.Errno) {
	t.Helper()
	if got != wanted || err != wantErr {
		t.Errorf("%s of %d = %d, %d, want %d, %d", what, numbers, got, err, wanted, wantErr)
	}
}

func wantAdd(t *testing.T, a, b, wanted int, wantErr api.Errno) {
	t.Helper()
	got, err := money.Add(a, b)
	want(t, "Add", []int{a, b}, got, err, wanted, wantErr)
}

func wantSub(t *testing.T, a, b, wanted int, wantErr api.Errno) {
	t.Helper()
	got, err := money.Sub(a, b)
	want(t, "Sub", []int{a, b}, got, err, wanted, wantErr)
}

func wantMul(t *testing.T, a, b, wanted int, wantErr api.Errno) {
	t.Helper()
	got, err := money.Mul(a, b)
	want(t, "Mul", []int{a, b}, got, err, wanted, wantErr)
}

func wantSum(t *testing.T, l []int, wanted int, wantErr api.Errno) {
	t.Helper()
	got, err := money.Sum(l)
	want(t, "Sum", l, got, err, wanted, wantErr)
}

func wantShare(t *testing.T, n, of, all, wanted int, wantErr api.Errno) {
	t.Helper()
	got, err := money.Share(n, of, all)
	want(t, "Share", []int{n, of, all}, got, err, wanted, wantErr)
}

// P3.1: amounts are the ints from 0 to MaxAmount.
func TestMay(t *testing.T) {
	if api.MaxAmount != most {
		t.Fatalf("MaxAmount is %d", api.MaxAmount)
	}
	for _, n := range amounts() {
		wantMay(t, n, true)
	}
	for _, n := range wrongs {
		wantMay(t, n, false)
	}
}

// P3.1: an argument that is not an amount is told, wherever it stands and whatever the other ones are.
func TestNoAmount(t *testing.T) {
	for _, bad := range wrongs {
		for _, other := range append(amounts(), wrongs...) {
			wantAdd(t, bad, other, 0, api.ErrArg)
			wantAdd(t, other, bad, 0, api.ErrArg)
			wantSub(t, bad, other, 0, api.ErrArg)
			wantSub(t, other, bad, 0, api.ErrArg)
			wantMul(t, bad, other, 0, api.ErrArg)
			wantMul(t, other, bad, 0, api.ErrArg)
			for _, third := range []int{-1, 0, 1, 2, most, most + 1} {
				wantShare(t, bad, other, third, 0, api.ErrArg)
				wantShare(t, other, bad, third, 0, api.ErrArg)
				wantShare(t, other, third, bad, 0, api.ErrArg)
			}
		}
	}
}

// P3.2: the sum, or ErrOver above MaxAmount.
func TestAdd(t *testing.T) {
	wantAdd(t, 3, 4, 7, api.OK)
	wantAdd(t, 0, 0, 0, api.OK)
	wantAdd(t, most, 0, most, api.OK)
	wantAdd(t, 0, most, most, api.OK)
	wantAdd(t, most-1, 1, most, api.OK)
	wantAdd(t, most/2, most/2, most, api.OK)
	wantAdd(t, most, 1, 0, api.ErrOver)
	wantAdd(t, 1, most, 0, api.ErrOver)
	wantAdd(t, most/2, most/2+1, 0, api.ErrOver)
	wantAdd(t, most, most, 0, api.ErrOver)
	for _, a := range amounts() {
		for _, b := range amounts() {
			if a+b > most {
				wantAdd(t, a, b, 0, api.ErrOver)
			} else {
				wantAdd(t, a, b, a+b, api.OK)
			}
		}
	}
}

// P3.3: the difference, or ErrFunds below 0.
func TestSub(t *testing.T) {
	wantSub(t, 5, 3, 2, api.OK)
	wantSub(t, 3, 5, 0, api.ErrFunds)
	wantSub(t, 0, 0, 0, api.OK)
	wantSub(t, 0, 1, 0, api.ErrFunds)
	wantSub(t, most, most, 0, api.OK)
	wantSub(t, most, 0, most, api.OK)
	wantSub(t, most-1, most, 0, api.ErrFunds)
	for _, a := range amounts() {
		for _, b := range amounts() {
			if b > a {
				wantSub(t, a, b, 0, api.ErrFunds)
			} else {
				wantSub(t, a, b, a-b, api.OK)
			}
		}
	}
}

// product is that of a and b, however great.
func product(a, b int) *big.Int {
	return new(big.Int).Mul(big.NewInt(int64(a)), big.NewInt(int64(b)))
}

// P3.4: the product, or ErrOver above MaxAmount.
func TestMul(t *testing.T) {
	wantMul(t, 6, 7, 42, api.OK)
	wantMul(t, 33554432, 33554432, most, api.OK)
	wantMul(t, 33554432, 33554433, 0, api.ErrOver)
	wantMul(t, 33554433, 33554432, 0, api.ErrOver)
	wantMul(t, 2, most, 0, api.ErrOver)
	wantMul(t, most, 2, 0, api.ErrOver)
	wantMul(t, 2, most/2, most, api.OK)
	wantMul(t, 1, most, most, api.OK)
	wantMul(t, most, 1, most, api.OK)
	wantMul(t, 0, most, 0, api.OK)
	wantMul(t, most, 0, 0, api.OK)
	wantMul(t, 3, most/3, most/3*3, api.OK)
	wantMul(t, 3, most/3+1, 0, api.ErrOver)
}

// P3.4: products that hold what an int does not, and come out as an amount where the bits above are lost.
func TestMulWide(t *testing.T) {
	wantMul(t, most, most, 0, api.ErrOver)
	wantMul(t, 1<<32, 1<<32, 0, api.ErrOver)
	wantMul(t, 1<<40, 1<<30, 0, api.ErrOver)
	wantMul(t, 1<<32, 1<<31, 0, api.ErrOver)
	wantMul(t, 1<<32+1, 1<<32, 0, api.ErrOver)
	all := append(amounts(), mixed(200, 4)...)
	for _, a := range all {
		for _, b := range all {
			if p := product(a, b); p.Cmp(big.NewInt(most)) > 0 {
				wantMul(t, a, b, 0, api.ErrOver)
			} else {
				wantMul(t, a, b, int(p.Int64()), api.OK)
			}
		}
	}
}

// P3.5: the sum of them all, which is 0 for none.
func TestSum(t *testing.T) {
	wantSum(t, []int{1, 2, 3}, 6, api.OK)
	wantSum(t, nil, 0, api.OK)
	wantSum(t, []int{}, 0, api.OK)
	wantSum(t, []int{0}, 0, api.OK)
	wantSum(t, []int{most}, most, api.OK)
	wantSum(t, []int{0, most, 0}, most, api.OK)
	wantSum(t, []int{most - 2, 1, 1}, most, api.OK)
	wantSum(t, []int{1, 1, most - 2}, most, api.OK)
	wantSum(t, []int{most - 2, 1, 1, 1}, 0, api.ErrOver)
	wantSum(t, []int{most, most}, 0, api.ErrOver)
	wantSum(t, slices.Repeat([]int{1 << 40}, 1<<10), most, api.OK)
	wantSum(t, slices.Repeat([]int{1 << 40}, 1<<10+1), 0, api.ErrOver)
	wantSum(t, slices.Repeat([]int{most}, 1<<14), 0, api.ErrOver)
	wantSum(t, slices.Repeat([]int{1}, 100000), 100000, api.OK)
}

// P3.5: of several errors, that of the element whose turn comes first.
func TestSumErrors(t *testing.T) {
	for _, bad := range wrongs {
		wantSum(t, []int{bad}, 0, api.ErrArg)
		wantSum(t, []int{1, 2, bad}, 0, api.ErrArg)
		wantSum(t, []int{most, bad}, 0, api.ErrArg)
		wantSum(t, []int{bad, most, 1}, 0, api.ErrArg)
		wantSum(t, []int{most, bad, 1}, 0, api.ErrArg)
		wantSum(t, []int{most, 1, bad}, 0, api.ErrOver)
		wantSum(t, []int{bad, -bad}, 0, api.ErrArg)
	}
	wantSum(t, []int{5, -3, 2}, 0, api.ErrArg)
	wantSum(t, []int{most, 1, -1}, 0, api.ErrOver)
	wantSum(t, []int{most, -1, 1}, 0, api.ErrArg)
}

// P3.5: Sum answers as Add does, one element after the other.
func TestSumByAdd(t *testing.T) {
	pool := append(append(amounts(), wrongs...), slices.Repeat([]int{0, 1, 2, 3}, 200)...)
	for seed := range 3000 {
		l := []int{}
		for _, n := range mixed(seed%9, seed) {
			l = append(l, pool[n%len(pool)])
		}
		wanted, wantErr := 0, api.OK
		for _, n := range l {
			if wanted, wantErr = money.Add(wanted, n); wantErr != api.OK {
				break
			}
		}
		wantSum(t, l, wanted, wantErr)
	}
}

// P3.6: the product divided and rounded down.
func TestShare(t *testing.T) {
	wantShare(t, 10, 1, 3, 3, api.OK)
	wantShare(t, 10, 2, 3, 6, api.OK)
	wantShare(t, 10, 3, 3, 10, api.OK)
	wantShare(t, 10, 0, 3, 0, api.OK)
	wantShare(t, 0, 3, 3, 0, api.OK)
	wantShare(t, 9, 1, 3, 3, api.OK)
	wantShare(t, 8, 1, 3, 2, api.OK)
	wantShare(t, 1, 1, 2, 0, api.OK)
	wantShare(t, 3, 1, 2, 1, api.OK)
	wantShare(t, 1, most-1, most, 0, api.OK)
	wantShare(t, 1, most, most, 1, api.OK)
}

// P3.6: products above MaxAmount, and such as no int holds, are divided exactly.
func TestShareWide(t *testing.T) {
	wantShare(t, most, most-1, most, most-1, api.OK)
	wantShare(t, most, most, most, most, api.OK)
	wantShare(t, most-1, most-1, most, most-2, api.OK)
	wantShare(t, most, 1, most, 1, api.OK)
	wantShare(t, most, 1, 3, most/3, api.OK)
	wantShare(t, most, most/2, most-1, most/2, api.OK)
	all := append(amounts(), mixed(40, 8)...)
	for _, n := range all {
		for _, of := range all {
			for _, whole := range all {
				if whole == 0 || of > whole {
					wantShare(t, n, of, whole, 0, api.ErrArg)
					continue
				}
				p := product(n, of)
				wantShare(t, n, of, whole, int(p.Quo(p, big.NewInt(int64(whole))).Int64()), api.OK)
			}
		}
	}
}

// P3.6: a whole of nothing has no shares, and no share is greater than the whole.
func TestShareWrong(t *testing.T) {
	wantShare(t, 1, 1, 0, 0, api.ErrArg)
	wantShare(t, 0, 0, 0, 0, api.ErrArg)
	wantShare(t, 1, 0, 0, 0, api.ErrArg)
	wantShare(t, 10, 4, 3, 0, api.ErrArg)
	wantShare(t, 0, 4, 3, 0, api.ErrArg)
	wantShare(t, most, most, most-1, 0, api.ErrArg)
	wantShare(t, most, 1, 0, 0, api.ErrArg)
}

// P3.7: what was added is taken away again, and every result is an amount.
func TestAddedAndTaken(t *testing.T) {
	all := append(amounts(), mixed(200, 6)...)
	for _, a := range all {
		for _, b := range all {
			if sum, err := money.Add(a, b); err == api.OK {
				wantSub(t, sum, b, a, api.OK)
				wantSub(t, sum, a, b, api.OK)
			}
			wantAmounts(t, a, b)
		}
	}
}

func wantAmounts(t *testing.T, a, b int) {
	t.Helper()
	added, _ := money.Add(a, b)
	taken, _ := money.Sub(a, b)
	times, _ := money.Mul(a, b)
	sum, _ := money.Sum([]int{a, b, a, b})
	share, _ := money.Share(a, b, most)
	for _, n := range []int{added, taken, times, sum, share} {
		if n < 0 || n > most {
			t.Errorf("a result of %d and %d is %d", a, b, n)
		}
	}
}

// P3.8: neither whether amounts can be added nor their sum depends on their order.
func TestAnyOrder(t *testing.T) {
	for seed := range 2000 {
		l := mixed(1+seed%7, seed)
		wanted, wantErr := money.Sum(l)
		for turn := range l {
			turned := slices.Concat(l[turn:], l[:turn])
			wantSum(t, turned, wanted, wantErr)
			slices.Reverse(turned)
			wantSum(t, turned, wanted, wantErr)
		}
		slices.Sort(l)
		wantSum(t, l, wanted, wantErr)
		wanted, wantErr = money.Add(l[0], l[len(l)-1])
		wantAdd(t, l[len(l)-1], l[0], wanted, wantErr)
	}
}

// P3.9: two shares that are the whole together are n together, or n less 1.
func TestTwoShares(t *testing.T) {
	all := append(amounts(), mixed(40, 3)...)
	for _, n := range all {
		for _, whole := range all {
			for _, of := range all {
				if whole > 0 && of <= whole {
					wantTwoShares(t, n, of, whole)
				}
			}
		}
	}
}

func wantTwoShares(t *testing.T, n, of, all int) {
	t.Helper()
	one, err := money.Share(n, of, all)
	two, err2 := money.Share(n, all-of, all)
	if rest := n - one - two; err != api.OK || err2 != api.OK || rest != 0 && rest != 1 {
		t.Errorf("shares of %d by %d and %d of %d: %d, %d and %d, %d", n, of, all-of, all, one, err, two, err2)
	}
}

// R3: Sum leaves its list and what lies behind it as they are.
func TestSumChangesNothing(t *testing.T) {
	l := []int{1, most, 2, -1, 3, 4}
	before := slices.Clone(l)
	for end := range len(l) + 1 {
		money.Sum(l[:end])
		if !slices.Equal(l, before) {
			t.Fatalf("after Sum of %d: %d", before[:end], l)
		}
	}
}

// R1: no call panics, whatever it is given.
func TestNoPanic(t *testing.T) {
	all := append([]int{0, 1, 2, most - 1, most}, wrongs...)
	for _, a := range all {
		money.May(a)
		for _, b := range all {
			money.Add(a, b)
			money.Sub(a, b)
			money.Mul(a, b)
			for _, c := range all {
				money.Sum([]int{a, b, c})
				money.Share(a, b, c)
			}
		}
	}
}
