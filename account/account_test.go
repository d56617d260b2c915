package account_test

import (
	"math"
	"slices"
	"testing"

	"cambist/account"
	"cambist/api"
)

// most is the greatest amount, by the chapter's own figure; accounts and assets are how many there are.
const (
	most     = 1125899906842624
	accounts = 64
	assets   = 8
)

// numbers are ints of all sorts: the least and the greatest ones, and those about each limit.
func numbers() []int {
	return []int{math.MinInt, math.MinInt + 1, math.MinInt32, -most, -64, -8, -2, -1, 0, 1, 2, 7, 8, 9, 63, 64, 65, 255, 256, 1 << 32, most - 1, most, most + 1, 2 * most, math.MaxInt - 1, math.MaxInt}
}

func isAmount(n int) bool {
	return n >= 0 && n <= most
}

func purse(account, asset int) api.Purse {
	return api.Purse{Account: account, Asset: asset}
}

func hold(account, asset, amount int) api.Holding {
	return api.Holding{Purse: purse(account, asset), Amount: amount}
}

func list(l ...api.Holding) []api.Holding {
	return l
}

// plain is a valid list of some accounts and assets.
func plain() []api.Holding {
	return list(hold(0, 2, 7), hold(1, 0, 3), hold(1, 2, 5), hold(1, 7, most), hold(9, 0, 1), hold(63, 7, 4))
}

// full is the valid list of all purses, each with the greatest amount.
func full() []api.Holding {
	l := []api.Holding{}
	for id := range accounts {
		for asset := range assets {
			l = append(l, hold(id, asset, most))
		}
	}
	return l
}

// rights are valid lists of all sorts.
func rights() [][]api.Holding {
	return [][]api.Holding{nil, {}, list(hold(0, 0, 1)), list(hold(63, 7, most)), list(hold(0, 0, most), hold(63, 7, 1)), plain(), full()}
}

// wrongs are lists that are not valid, each for one reason.
func wrongs() [][]api.Holding {
	l := [][]api.Holding{
		{{}},
		list(hold(1, 2, 5), hold(1, 2, 5)),
		list(hold(1, 2, 5), hold(1, 2, 6)),
		list(hold(1, 2, 5), hold(1, 1, 5)),
		list(hold(2, 1, 5), hold(1, 2, 5)),
		list(hold(2, 2, 5), hold(1, 2, 5)),
		list(hold(1, 2, 5), hold(3, 0, 1), hold(1, 3, 5)),
		list(hold(64, 0, 5)),
		list(hold(-1, 0, 5)),
		list(hold(0, 8, 5)),
		list(hold(0, -1, 5)),
		list(hold(0, 8, 5), hold(1, 0, 5)),
		list(hold(1, 2, 0)),
		list(hold(1, 2, -1)),
		list(hold(1, 2, most+1)),
		append(plain(), hold(64, 0, 1)),
		append(plain(), hold(63, 7, 4)),
		append(list(hold(-1, 0, 1)), plain()...),
	}
	for i := range plain() {
		changed := plain()
		changed[i].Amount = 0
		l = append(l, changed, slices.Insert(plain(), i, plain()[i]))
	}
	return l
}

// mixed are count numbers from 0 to below, the same ones at each call.
func mixed(count, below int) []int {
	l := make([]int, count)
	u := uint64(count)*2654435769 + uint64(below)
	for i := range l {
		u = u*6364136223846793005 + 1442695040888963407
		l[i] = int(u>>33) % below
	}
	return l
}

// same tells whether a and b hold the same, of which nil and empty ones are alike.
func same(a, b []api.Holding) bool {
	return slices.Equal(a, b)
}

func wantRight(t *testing.T, l []api.Holding, want bool) {
	t.Helper()
	if got := account.Right(l); got != want {
		t.Errorf("Right(%v) = %t, want %t", l, got, want)
	}
}

func wantGet(t *testing.T, l []api.Holding, p api.Purse, want int) {
	t.Helper()
	if got := account.Get(l, p); got != want {
		t.Errorf("Get(%v, %v) = %d, want %d", l, p, got, want)
	}
}

func wantGive(t *testing.T, l []api.Holding, p api.Purse, n int, want []api.Holding, wantErr api.Errno) {
	t.Helper()
	if got, err := account.Give(l, p, n); !same(got, want) || err != wantErr {
		t.Errorf("Give(%v, %v, %d) = %v, %d, want %v, %d", l, p, n, got, err, want, wantErr)
	}
}

func wantTake(t *testing.T, l []api.Holding, p api.Purse, n int, want []api.Holding, wantErr api.Errno) {
	t.Helper()
	if got, err := account.Take(l, p, n); !same(got, want) || err != wantErr {
		t.Errorf("Take(%v, %v, %d) = %v, %d, want %v, %d", l, p, n, got, err, want, wantErr)
	}
}

// wantNeither wants that error of both Give and Take, with the list as it was.
func wantNeither(t *testing.T, l []api.Holding, p api.Purse, n int, wantErr api.Errno) {
	t.Helper()
	wantGive(t, l, p, n, l, wantErr)
	wantTake(t, l, p, n, l, wantErr)
}

func wantTotal(t *testing.T, l []api.Holding, asset, want int) {
	t.Helper()
	if got := account.Total(l, asset); got != want {
		t.Errorf("Total(%v, %d) = %d, want %d", l, asset, got, want)
	}
}

func wantOf(t *testing.T, l []api.Holding, id int, want ...api.Holding) {
	t.Helper()
	if got := account.Of(l, id); !same(got, want) {
		t.Errorf("Of(%v, %d) = %v, want %v", l, id, got, want)
	}
}

// P7.1: the limits are the chapter's.
func TestLimits(t *testing.T) {
	if api.MaxAmount != most || api.MaxAccounts != accounts || api.MaxAssets != assets {
		t.Fatalf("MaxAmount is %d, MaxAccounts %d, MaxAssets %d", api.MaxAmount, api.MaxAccounts, api.MaxAssets)
	}
}

// P7.1: valid lists, up to each edge.
func TestRight(t *testing.T) {
	for _, l := range rights() {
		wantRight(t, l, true)
	}
	// The account counts ahead of the asset.
	wantRight(t, list(hold(1, 7, 5), hold(2, 0, 5)), true)
	wantRight(t, list(hold(1, 2, 5), hold(1, 3, 1)), true)
	wantRight(t, list(hold(1, 2, 5), hold(2, 2, 5)), true)
}

// P7.1: one holding that may not be is enough, wherever it is.
func TestNotRight(t *testing.T) {
	wantRight(t, make([]api.Holding, 1), false)
	for _, l := range wrongs() {
		wantRight(t, l, false)
	}
	for i := range plain() {
		for _, n := range numbers() {
			l := plain()
			l[i].Amount = n
			wantRight(t, l, n >= 1 && n <= most)
		}
	}
	for _, n := range numbers() {
		wantRight(t, list(hold(n, 3, 5)), n >= 0 && n < 64)
		wantRight(t, list(hold(3, n, 5)), n >= 0 && n < 8)
	}
}

// P7.1: two holdings are in order by their accounts, and for the same one by their assets.
func TestRightOrder(t *testing.T) {
	all := full()
	for i, a := range all {
		for j, b := range all {
			wantRight(t, list(a, b), i < j)
		}
	}
	for i := 1; i < len(all); i++ {
		l := full()
		l[i-1], l[i] = l[i], l[i-1]
		wantRight(t, l, false)
	}
}

// P7.2: the purse's amount, or 0.
func TestGet(t *testing.T) {
	wantGet(t, nil, purse(1, 2), 0)
	wantGet(t, nil, purse(0, 0), 0)
	for _, h := range plain() {
		wantGet(t, plain(), h.Purse, h.Amount)
	}
	for _, p := range []api.Purse{{}, purse(0, 1), purse(2, 1), purse(1, 1), purse(0, 7), purse(63, 6), purse(62, 7)} {
		wantGet(t, plain(), p, 0)
	}
	for _, h := range full() {
		wantGet(t, full(), h.Purse, most)
	}
}

// P7.2: so it is for lists that are not valid, of which the first holding of the purse counts.
func TestGetAnywhere(t *testing.T) {
	l := list(hold(5, 5, 9), hold(1, 2, -3), hold(1, 2, 8), hold(64, 8, 2), hold(-1, -1, math.MinInt), hold(5, 5, 1), hold(0, 0, 0), hold(0, 0, 6), hold(2, 1, math.MaxInt))
	wantGet(t, l, purse(5, 5), 9)
	wantGet(t, l, purse(1, 2), -3)
	wantGet(t, l, purse(64, 8), 2)
	wantGet(t, l, purse(-1, -1), math.MinInt)
	wantGet(t, l, purse(0, 0), 0)
	wantGet(t, l, purse(2, 1), math.MaxInt)
	wantGet(t, l, purse(2, 2), 0)
	for _, m := range numbers() {
		for _, n := range numbers() {
			wantGet(t, plain(), purse(m, n), map[api.Purse]int{purse(0, 2): 7, purse(1, 0): 3, purse(1, 2): 5, purse(1, 7): most, purse(9, 0): 1, purse(63, 7): 4}[purse(m, n)])
			wantGet(t, list(hold(3, 3, 1), hold(m, n, 2), hold(m, n, 4)), purse(m, n), 2)
		}
	}
}

// P7.3: what is given is added, and a new holding has its place in the order.
func TestGive(t *testing.T) {
	wantGive(t, nil, purse(1, 2), 5, list(hold(1, 2, 5)), api.OK)
	wantGive(t, []api.Holding{}, purse(0, 0), 1, list(hold(0, 0, 1)), api.OK)
	wantGive(t, nil, purse(63, 7), most, list(hold(63, 7, most)), api.OK)
	l := list(hold(1, 2, 5), hold(1, 6, 2))
	wantGive(t, l, purse(1, 2), 3, list(hold(1, 2, 8), hold(1, 6, 2)), api.OK)
	wantGive(t, l, purse(1, 6), 3, list(hold(1, 2, 5), hold(1, 6, 5)), api.OK)
	wantGive(t, l, purse(0, 7), 3, list(hold(0, 7, 3), hold(1, 2, 5), hold(1, 6, 2)), api.OK)
	wantGive(t, l, purse(1, 1), 3, list(hold(1, 1, 3), hold(1, 2, 5), hold(1, 6, 2)), api.OK)
	wantGive(t, l, purse(1, 4), 3, list(hold(1, 2, 5), hold(1, 4, 3), hold(1, 6, 2)), api.OK)
	wantGive(t, l, purse(1, 7), 3, list(hold(1, 2, 5), hold(1, 6, 2), hold(1, 7, 3)), api.OK)
	wantGive(t, l, purse(2, 0), 3, list(hold(1, 2, 5), hold(1, 6, 2), hold(2, 0, 3)), api.OK)
	wantGive(t, l, purse(2, 1), 3, list(hold(1, 2, 5), hold(1, 6, 2), hold(2, 1, 3)), api.OK)
}

// P7.3: giving nothing changes nothing; above all, no holding of nothing comes into being.
func TestGiveNothing(t *testing.T) {
	wantGive(t, nil, purse(1, 2), 0, nil, api.OK)
	for _, l := range rights() {
		for _, p := range []api.Purse{{}, purse(1, 2), purse(1, 3), purse(63, 7)} {
			wantGive(t, l, p, 0, l, api.OK)
		}
	}
}

// P7.3: up to the greatest amount, and ErrOver beyond it.
func TestGiveOver(t *testing.T) {
	wantGive(t, list(hold(0, 0, 5)), purse(0, 0), most, list(hold(0, 0, 5)), api.ErrOver)
	wantGive(t, list(hold(0, 0, 5)), purse(0, 0), most-5, list(hold(0, 0, most)), api.OK)
	wantGive(t, list(hold(0, 0, 5)), purse(0, 0), most-4, list(hold(0, 0, 5)), api.ErrOver)
	wantGive(t, list(hold(0, 0, most)), purse(0, 0), 0, list(hold(0, 0, most)), api.OK)
	wantGive(t, list(hold(0, 0, most)), purse(0, 0), 1, list(hold(0, 0, most)), api.ErrOver)
	wantGive(t, list(hold(0, 0, most)), purse(0, 0), most, list(hold(0, 0, most)), api.ErrOver)
	// Each purse is full by itself.
	wantGive(t, list(hold(0, 0, most)), purse(0, 1), most, list(hold(0, 0, most), hold(0, 1, most)), api.OK)
	wantGive(t, list(hold(0, 0, most)), purse(1, 0), most, list(hold(0, 0, most), hold(1, 0, most)), api.OK)
	for _, h := range full() {
		wantGive(t, full(), h.Purse, 1, full(), api.ErrOver)
	}
}

// P7.4: what is taken is subtracted, and a purse with nothing left has no holding.
func TestTake(t *testing.T) {
	wantTake(t, list(hold(1, 0, 5)), purse(1, 0), 5, nil, api.OK)
	wantTake(t, list(hold(1, 0, 5)), purse(1, 0), 4, list(hold(1, 0, 1)), api.OK)
	wantTake(t, list(hold(1, 0, most)), purse(1, 0), most, nil, api.OK)
	wantTake(t, list(hold(1, 0, most)), purse(1, 0), 1, list(hold(1, 0, most-1)), api.OK)
	for i, h := range plain() {
		wantTake(t, plain(), h.Purse, h.Amount, slices.Delete(plain(), i, i+1), api.OK)
		if h.Amount > 1 {
			want := plain()
			want[i].Amount = 1
			wantTake(t, plain(), h.Purse, h.Amount-1, want, api.OK)
		}
	}
	for _, l := range rights() {
		for _, p := range []api.Purse{{}, purse(1, 2), purse(1, 3), purse(63, 7)} {
			wantTake(t, l, p, 0, l, api.OK)
		}
	}
}

// P7.4: no more than there is of that account and that asset.
func TestTakeFunds(t *testing.T) {
	wantTake(t, list(hold(1, 0, 5)), purse(1, 0), 6, list(hold(1, 0, 5)), api.ErrFunds)
	wantTake(t, nil, purse(1, 0), 1, nil, api.ErrFunds)
	wantTake(t, nil, purse(1, 0), most, nil, api.ErrFunds)
	wantTake(t, list(hold(1, 0, most-1)), purse(1, 0), most, list(hold(1, 0, most-1)), api.ErrFunds)
	wantTake(t, list(hold(1, 0, 5), hold(1, 1, 5), hold(2, 0, 5)), purse(1, 0), 6, list(hold(1, 0, 5), hold(1, 1, 5), hold(2, 0, 5)), api.ErrFunds)
	wantTake(t, plain(), purse(0, 1), 1, plain(), api.ErrFunds)
	wantTake(t, plain(), purse(2, 2), 1, plain(), api.ErrFunds)
	for _, h := range plain() {
		if h.Amount < most {
			wantTake(t, plain(), h.Purse, h.Amount+1, plain(), api.ErrFunds)
		}
	}
}

// P7.3, P7.4: a list that is not valid, and it comes back as it was.
func TestChangeWrongList(t *testing.T) {
	for _, l := range wrongs() {
		for _, p := range []api.Purse{{}, purse(1, 2), purse(62, 3), purse(64, 0)} {
			for _, n := range []int{0, 1, 5, most, most + 1, -1} {
				wantNeither(t, l, p, n, api.ErrArg)
			}
		}
	}
}

// P7.3, P7.4: a purse that is not valid, even if nothing is to be given or taken.
func TestChangeWrongPurse(t *testing.T) {
	wantNeither(t, nil, purse(64, 0), 1, api.ErrArg)
	for _, l := range rights() {
		for _, bad := range numbers() {
			for _, n := range []int{0, 1, most} {
				if bad < 0 || bad >= accounts {
					wantNeither(t, l, purse(bad, 0), n, api.ErrArg)
				}
				if bad < 0 || bad >= assets {
					wantNeither(t, l, purse(0, bad), n, api.ErrArg)
				}
			}
		}
	}
}

// P7.3, P7.4: what is no amount can't be given or taken, whatever is there; neither error of money comes ahead of that.
func TestChangeWrongAmount(t *testing.T) {
	for _, l := range rights() {
		for _, n := range numbers() {
			for _, p := range []api.Purse{{}, purse(1, 7), purse(63, 7)} {
				if !isAmount(n) {
					wantNeither(t, l, p, n, api.ErrArg)
				}
			}
		}
	}
}

// P7.5: all accounts' amounts of the asset.
func TestTotal(t *testing.T) {
	wantTotal(t, list(hold(0, 2, 7), hold(1, 2, 5)), 2, 12)
	wantTotal(t, nil, 0, 0)
	wantTotal(t, []api.Holding{}, 7, 0)
	for asset, want := range []int{4, 0, 12, 0, 0, 0, 0, most + 4} {
		wantTotal(t, plain(), asset, want)
	}
	for asset := range assets {
		wantTotal(t, full(), asset, 64*most)
	}
	for _, asset := range numbers() {
		if asset < 0 || asset >= assets {
			wantTotal(t, plain(), asset, 0)
			wantTotal(t, full(), asset, 0)
		}
	}
}

// P7.5: 0 for a list that is not valid, wherever the fault is.
func TestTotalWrong(t *testing.T) {
	for _, l := range wrongs() {
		for _, asset := range numbers() {
			wantTotal(t, l, asset, 0)
		}
	}
	wantTotal(t, list(hold(0, 2, 7), hold(1, 2, 5), hold(64, 0, 1)), 2, 0)
	wantTotal(t, list(hold(0, 2, math.MaxInt), hold(1, 2, 1)), 2, 0)
}

// P7.6: the account's holdings, and no others.
func TestOf(t *testing.T) {
	wantOf(t, nil, 0)
	wantOf(t, plain(), 0, hold(0, 2, 7))
	wantOf(t, plain(), 1, hold(1, 0, 3), hold(1, 2, 5), hold(1, 7, most))
	wantOf(t, plain(), 2)
	wantOf(t, plain(), 9, hold(9, 0, 1))
	wantOf(t, plain(), 63, hold(63, 7, 4))
	for id := range accounts {
		wantOf(t, full(), id, full()[8*id:8*id+8]...)
	}
	for _, id := range numbers() {
		if id < 0 || id >= accounts {
			wantOf(t, full(), id)
		}
	}
}

// P7.6: so it is for lists that are not valid: all of the account, in the list's order.
func TestOfAnywhere(t *testing.T) {
	wantOf(t, make([]api.Holding, 2), 0, api.Holding{}, api.Holding{})
	l := list(hold(5, 5, 9), hold(1, 2, -3), hold(5, 1, 0), hold(64, 8, 2), hold(1, 2, 8), hold(5, 5, 9), hold(-1, 0, 3), hold(5, 99, math.MaxInt))
	wantOf(t, l, 5, hold(5, 5, 9), hold(5, 1, 0), hold(5, 5, 9), hold(5, 99, math.MaxInt))
	wantOf(t, l, 1, hold(1, 2, -3), hold(1, 2, 8))
	wantOf(t, l, 64, hold(64, 8, 2))
	wantOf(t, l, -1, hold(-1, 0, 3))
	wantOf(t, l, 0)
	for _, id := range numbers() {
		wantOf(t, list(hold(id, id, id), hold(3, id, id), hold(id, 3, 1)), id, hold(id, id, id), hold(id, 3, 1))
	}
}

// P7.7: what was given is there and can be taken again, which leaves the list as it was.
func TestGivenAndTaken(t *testing.T) {
	for _, l := range rights() {
		for _, h := range full() {
			before := account.Get(l, h.Purse)
			for _, n := range []int{0, 1, 5, most - 5, most} {
				given, err := account.Give(l, h.Purse, n)
				if before+n > most {
					wantGive(t, l, h.Purse, n, l, api.ErrOver)
					continue
				}
				if err != api.OK {
					t.Fatalf("Give(%v, %v, %d): %d", l, h.Purse, n, err)
				}
				wantRight(t, given, true)
				wantGet(t, given, h.Purse, before+n)
				wantTake(t, given, h.Purse, n, l, api.OK)
			}
		}
	}
}

// wantModel wants the list to hold just what is in the purses, those of one account after those of the accounts before it.
func wantModel(t *testing.T, l []api.Holding, model [accounts][assets]int) {
	t.Helper()
	want := []api.Holding{}
	for id, purses := range model {
		own := []api.Holding{}
		for asset, n := range purses {
			if n != 0 {
				own = append(own, hold(id, asset, n))
			}
		}
		wantOf(t, l, id, own...)
		want = append(want, own...)
	}
	if !same(l, want) {
		t.Fatalf("%v, want %v", l, want)
	}
	wantRight(t, l, true)
	for asset := range assets {
		sum := 0
		for _, purses := range model {
			sum += purses[asset]
		}
		wantTotal(t, l, asset, sum)
	}
}

// P7.7, P7.8, P7.9: many gifts and takings, of few purses and of many, held against a table of all purses.
func TestMany(t *testing.T) {
	sizes := []int{0, 1, 2, 3, 10, most / 3, most / 2, most - 1, most, most + 1, -1}
	for _, reach := range [][2]int{{2, 2}, {64, 8}} {
		l, model, failed := []api.Holding(nil), [accounts][assets]int{}, 0
		picks := mixed(12000, 1<<20)
		for i := 0; i < len(picks); i += 4 {
			id, asset, n := picks[i]%reach[0], picks[i+1]%reach[1], sizes[picks[i+2]%len(sizes)]
			change, after := account.Give, model[id][asset]+n
			if picks[i+3]%2 == 0 {
				change, after = account.Take, model[id][asset]-n
			}
			changed, err := change(l, purse(id, asset), n)
			if may := isAmount(n) && isAmount(after); may != (err == api.OK) {
				t.Fatalf("to %v of %d in %v: %d", after, n, purse(id, asset), err)
			} else if may {
				model[id][asset] = after
			} else {
				failed++
			}
			l = changed
			wantModel(t, l, model)
		}
		if failed == 0 || failed == len(picks)/4 {
			t.Errorf("%d of %d failed", failed, len(picks)/4)
		}
	}
}

// P7.8: the total of the asset changes by what was given or taken, and those of others don't.
func TestTotalChanges(t *testing.T) {
	for _, h := range full() {
		for _, n := range []int{0, 1, 5} {
			for asset := range assets {
				before, step := account.Total(plain(), asset), 0
				if asset == h.Purse.Asset {
					step = n
				}
				if given, err := account.Give(plain(), h.Purse, n); err == api.OK {
					wantTotal(t, given, asset, before+step)
				}
				if taken, err := account.Take(plain(), h.Purse, n); err == api.OK {
					wantTotal(t, taken, asset, before-step)
				}
			}
		}
	}
}

// P7.9, R3: neither a list that is handed in nor what is behind its end is changed, with an error or without one.
func TestUnchanged(t *testing.T) {
	for _, l := range append(rights(), wrongs()...) {
		spare := slices.Repeat(list(hold(77, 77, 77)), 4)
		room := append(slices.Clone(l), spare...)
		passed := room[:len(l):len(room)]
		for _, p := range []api.Purse{{}, purse(0, 2), purse(1, 2), purse(1, 3), purse(63, 7), purse(64, 0)} {
			for _, n := range []int{-1, 0, 1, 4, 5, most, most + 1} {
				account.Give(passed, p, n)
				account.Take(passed, p, n)
				account.Get(passed, p)
				account.Of(passed, p.Account)
				account.Total(passed, p.Asset)
				account.Right(passed)
				if !same(room, append(slices.Clone(l), spare...)) {
					t.Fatalf("%v with %v and %d: %v is there", l, p, n, room)
				}
			}
		}
	}
}

// scribble writes over all that l shares with others, and what is behind its end.
func scribble(l []api.Holding) {
	for i := range l[:cap(l)] {
		l[:cap(l)][i] = hold(55, 55, 55)
	}
}

// R3: a list that is told, but for one that comes back as it was, shares nothing with the one that was handed in, nor with an earlier one.
func TestNew(t *testing.T) {
	for _, n := range []int{0, 1, 3} {
		l := plain()
		for _, h := range plain() {
			given, err := account.Give(l, h.Purse, n)
			again, _ := account.Give(l, h.Purse, n)
			want := slices.Clone(again)
			if err == api.OK {
				scribble(given)
			}
			taken, err := account.Take(l, h.Purse, min(n, h.Amount))
			if err == api.OK {
				scribble(taken)
			}
			own := account.Of(l, h.Purse.Account)
			scribble(own)
			if !same(l, plain()) || !same(again, want) {
				t.Fatalf("%v and %v, want %v and %v", l, again, plain(), want)
			}
		}
	}
}

// R4: the same answer each time.
func TestAgain(t *testing.T) {
	want, _ := account.Take(full(), purse(30, 3), 1)
	for range 20 {
		wantTake(t, full(), purse(30, 3), 1, want, api.OK)
		wantTake(t, full(), purse(30, 3), most, slices.Delete(full(), 243, 244), api.OK)
	}
}

// R1: no call panics, whatever it is given.
func TestNoPanic(t *testing.T) {
	for _, l := range append(rights(), wrongs()...) {
		for _, m := range numbers() {
			for _, n := range numbers() {
				account.Give(l, purse(m, n), n)
				account.Take(l, purse(n, m), n)
				account.Get(l, purse(m, n))
			}
			account.Of(l, m)
			account.Total(l, m)
			account.Right(append(slices.Clone(l), hold(m, m, m)))
		}
	}
}
