package level_test

import (
	"math"
	"slices"
	"testing"

	"cambist/api"
	"cambist/level"
)

// The limits, by the chapter's own figures and those of the list of limits.
const (
	maxPrice  = 1048576
	maxId     = 1073741824
	accounts  = 64
	buy, sell = 1, 2
)

// numbers are ints of all sorts: the least and the greatest ones, and those about each limit.
func numbers() []int {
	return []int{math.MinInt, math.MinInt + 1, math.MinInt32, -maxPrice, -64, -2, -1, 0, 1, 2, 3, 5, 9, 10, 11, 63, 64, 65, 255, maxPrice - 1, maxPrice, maxPrice + 1, 2 * maxPrice, maxId - 1, maxId, maxId + 1, 1 << 40, math.MaxInt - 1, math.MaxInt}
}

// order is one of side whose owner and rest hang on its Id, so that orders of other Ids differ in all.
func order(id, side, price int) api.Order {
	return api.Order{Id: id, Owner: id % accounts, Side: side, Price: price, Left: 1 + id%maxPrice}
}

// at is a level of side at that price, with orders of these Ids.
func at(side, price int, ids ...int) api.Level {
	v := api.Level{Price: price}
	for _, id := range ids {
		v.Orders = append(v.Orders, order(id, side, price))
	}
	return v
}

func list(l ...api.Level) []api.Level {
	return l
}

// buys and sells are valid lists of some levels, in which Ids are in no order.
func buys() []api.Level {
	return list(at(buy, 11, 8), at(buy, 10, 2, 9, 5), at(buy, 7, 3, 1), at(buy, 2, 12))
}

func sells() []api.Level {
	return list(at(sell, 3, 12), at(sell, 7, 1, 3), at(sell, 10, 5, 9, 2), at(sell, 12, 8))
}

// long is a valid list of many levels of a side, each with a few orders.
func long(side int) []api.Level {
	l := []api.Level{}
	for i := range 30 {
		price := 1 + 5*i
		if side == buy {
			price = 1000 - 5*i
		}
		l = append(l, at(side, price, 4*i+4, 4*i+2, 4*i+3))
	}
	return l
}

// rights are valid lists of a side, of all sorts.
func rights(side int) [][]api.Level {
	plain := buys()
	edges := list(at(buy, maxPrice, maxId), at(buy, 1, 1))
	if side == sell {
		plain = sells()
		edges = list(at(sell, 1, 1), at(sell, maxPrice, maxId))
	}
	return [][]api.Level{nil, {}, list(at(side, 9, 1)), list(at(side, 9, 3, 1, 2)), edges, plain, long(side)}
}

// copied is l in memory of its own, level by level.
func copied(l []api.Level) []api.Level {
	own := []api.Level{}
	for _, v := range l {
		own = append(own, api.Level{Price: v.Price, Orders: append([]api.Order{}, v.Orders...)})
	}
	return own
}

// with is l with other orders at the level i.
func with(l []api.Level, i int, orders ...api.Order) []api.Level {
	own := copied(l)
	own[i].Orders = orders
	return own
}

// wrongs are lists that are valid for neither side, each for one reason.
func wrongs() [][]api.Level {
	l := [][]api.Level{
		{{}},
		{{Price: 9}},
		{{Price: 9, Orders: make([]api.Order, 1)}},
		list(at(buy, 9, 1), at(buy, 9, 2)),
		list(at(sell, 9, 1), at(sell, 9, 2)),
		list(at(buy, 9, 1), at(buy, 10, 2), at(buy, 9, 3)),
		list(at(sell, 9, 1), at(sell, 10, 2), at(sell, 9, 3)),
		list(at(buy, 9, 1, 2, 1)),
		list(at(sell, 9, 1, 1)),
		list(at(buy, 9, 1), at(sell, 8, 2)),
		list(at(buy, 9, 1), at(sell, 10, 2)),
		list(at(buy, 0, 1)),
		list(at(sell, maxPrice+1, 1)),
		list(at(buy, 9, 0)),
		list(at(sell, 9, maxId+1)),
		list(at(3, 9, 1)),
		list(at(0, 9, 1)),
	}
	for i := range buys() {
		l = append(l, with(buys(), i), with(sells(), i))
		l = append(l, with(buys(), i, order(77, buy, buys()[i].Price+1)), with(sells(), i, order(77, sell, sells()[i].Price-1)))
		l = append(l, slices.Insert(buys(), i, at(buy, buys()[i].Price)), slices.Insert(sells(), i, buys()[i]))
	}
	return l
}

// all are all those lists.
func all() [][]api.Level {
	return slices.Concat(rights(buy), rights(sell), wrongs())
}

// mixed are count numbers from 0 to below, the same ones at each call.
func mixed(count, below int) []int {
	l := make([]int, count)
	u := uint64(count)*2654435769 + uint64(below)
	for i := range l {
		u = u*6364136223846793005 + 1442695040888963407
		l[i] = int(u>>33) % below
	}
	return l
}

// same tells whether a and b hold the same, of which nil and empty ones are alike.
func same(a, b []api.Level) bool {
	return slices.EqualFunc(a, b, func(v, w api.Level) bool {
		return v.Price == w.Price && slices.Equal(v.Orders, w.Orders)
	})
}

func wantRight(t *testing.T, l []api.Level, side int, want bool) {
	t.Helper()
	if got := level.Right(l, side); got != want {
		t.Errorf("Right(%v, %d) = %t, want %t", l, side, got, want)
	}
}

func wantPut(t *testing.T, l []api.Level, o api.Order, want []api.Level, wantErr api.Errno) {
	t.Helper()
	before := copied(l)
	if got, err := level.Put(l, o); !same(got, want) || err != wantErr || !same(l, before) {
		t.Errorf("Put(%v, %v) = %v, %d, want %v, %d", before, o, got, err, want, wantErr)
	}
}

func wantRemove(t *testing.T, l []api.Level, id int, want []api.Level, wantOrder api.Order, wantFound bool) {
	t.Helper()
	before := copied(l)
	if got, o, found := level.Remove(l, id); !same(got, want) || o != wantOrder || found != wantFound || !same(l, before) {
		t.Errorf("Remove(%v, %d) = %v, %v, %t, want %v, %v, %t", before, id, got, o, found, want, wantOrder, wantFound)
	}
}

func wantFind(t *testing.T, l []api.Level, id int, want api.Order, wantFound bool) {
	t.Helper()
	if got, found := level.Find(l, id); got != want || found != wantFound {
		t.Errorf("Find(%v, %d) = %v, %t, want %v, %t", l, id, got, found, want, wantFound)
	}
}

// wantOrders wants l to have these orders, by Best, Count and Orders.
func wantOrders(t *testing.T, l []api.Level, want ...api.Order) {
	t.Helper()
	if got := level.Orders(l); !slices.Equal(got, want) {
		t.Errorf("Orders(%v) = %v, want %v", l, got, want)
	}
	if got := level.Count(l); got != len(want) {
		t.Errorf("Count(%v) = %d, want %d", l, got, len(want))
	}
	best := append(slices.Clone(want), api.Order{})[0]
	if got, found := level.Best(l); got != best || found != (len(want) > 0) {
		t.Errorf("Best(%v) = %v, %t, want %v", l, got, found, best)
	}
}

// P8.1: the limits and the sides are the document's.
func TestLimits(t *testing.T) {
	if api.MaxPrice != maxPrice || api.MaxBallot != maxId || api.MaxAccounts != accounts || api.Buy != buy || api.Sell != sell {
		t.Fatalf("MaxPrice is %d, MaxBallot %d, MaxAccounts %d, Buy %d, Sell %d", api.MaxPrice, api.MaxBallot, api.MaxAccounts, api.Buy, api.Sell)
	}
}

// P8.1: valid lists are so for their side alone, but the empty one for both.
func TestRight(t *testing.T) {
	for _, side := range []int{buy, sell} {
		for _, l := range rights(side) {
			wantRight(t, l, side, true)
			wantRight(t, l, 3-side, len(l) == 0)
		}
	}
}

// P8.1: there are two sides.
func TestRightOtherSide(t *testing.T) {
	for _, side := range numbers() {
		if side == buy || side == sell {
			continue
		}
		wantRight(t, nil, side, false)
		wantRight(t, list(at(side, 9, 1)), side, false)
		wantRight(t, buys(), side, false)
		wantRight(t, sells(), side, false)
	}
}

// P8.1: one level or order that may not be is enough, wherever it is.
func TestNotRight(t *testing.T) {
	for _, l := range wrongs() {
		wantRight(t, l, buy, false)
		wantRight(t, l, sell, false)
	}
	for _, side := range []int{buy, sell} {
		l := rights(side)[5]
		for i := range l {
			for j := range l[i].Orders {
				changed := copied(l)
				changed[i].Orders[j].Side = 3 - side
				wantRight(t, changed, side, false)
				changed = copied(l)
				changed[i].Orders[j].Price++
				wantRight(t, changed, side, false)
				changed = copied(l)
				changed[i].Orders[j].Left = 0
				wantRight(t, changed, side, false)
			}
			changed := copied(l)
			changed[i].Price++
			wantRight(t, changed, side, false)
		}
	}
}

// P8.1: each number of an order has its limits, at any place in its level.
func TestRightNumbers(t *testing.T) {
	for _, side := range []int{buy, sell} {
		for _, n := range numbers() {
			for i := range 3 {
				change := func(edit func(o *api.Order)) []api.Level {
					l := list(at(side, 9, 101, 102, 103))
					edit(&l[0].Orders[i])
					return l
				}
				wantRight(t, change(func(o *api.Order) { o.Id = n }), side, n >= 1 && n <= maxId)
				wantRight(t, change(func(o *api.Order) { o.Owner = n }), side, n >= 0 && n < accounts)
				wantRight(t, change(func(o *api.Order) { o.Side = n }), side, n == side)
				wantRight(t, change(func(o *api.Order) { o.Price = n }), side, n == 9)
				wantRight(t, change(func(o *api.Order) { o.Left = n }), side, n >= 1 && n <= maxPrice)
			}
			wantRight(t, list(at(side, n, 5)), side, n >= 1 && n <= maxPrice)
		}
	}
}

// P8.1: prices fall strictly for buyers, and rise strictly for sellers, at each step.
func TestRightPrices(t *testing.T) {
	for _, a := range numbers() {
		for _, b := range numbers() {
			may := min(a, b) >= 1 && max(a, b) <= maxPrice
			wantRight(t, list(at(buy, a, 5), at(buy, b, 6)), buy, may && a > b)
			wantRight(t, list(at(sell, a, 5), at(sell, b, 6)), sell, may && a < b)
		}
	}
	for _, side := range []int{buy, sell} {
		for i := 1; i < len(long(side)); i++ {
			l := long(side)
			l[i-1], l[i] = l[i], l[i-1]
			wantRight(t, l, side, false)
		}
	}
}

// P8.1: no two orders have the same Id, of one level or of two, close by or not.
func TestRightIds(t *testing.T) {
	for _, side := range []int{buy, sell} {
		l := rights(side)[5]
		for i := range l {
			for j := range l[i].Orders {
				for _, o := range level.Orders(l) {
					changed := copied(l)
					changed[i].Orders[j].Id = o.Id
					wantRight(t, changed, side, o == l[i].Orders[j])
				}
			}
		}
	}
}

// P8.2, P8.5, P8.7: the chapter's example.
func TestExample(t *testing.T) {
	first, second, third := order(1, buy, 9), order(2, buy, 10), order(3, buy, 9)
	wantPut(t, nil, first, list(at(buy, 9, 1)), api.OK)
	wantPut(t, list(at(buy, 9, 1)), second, list(at(buy, 10, 2), at(buy, 9, 1)), api.OK)
	l := list(at(buy, 10, 2), at(buy, 9, 1, 3))
	wantPut(t, list(at(buy, 10, 2), at(buy, 9, 1)), third, l, api.OK)
	wantOrders(t, l, second, first, third)
	wantRemove(t, l, 1, list(at(buy, 10, 2), at(buy, 9, 3)), first, true)
}

// P8.2: a price that is there already: the order goes behind all others of it, whatever their Ids are.
func TestPutBehind(t *testing.T) {
	for _, side := range []int{buy, sell} {
		for _, l := range rights(side) {
			for i, v := range l {
				for _, id := range []int{900, 901, maxId - 1} {
					want := copied(l)
					want[i].Orders = append(want[i].Orders, order(id, side, v.Price))
					wantPut(t, l, order(id, side, v.Price), want, api.OK)
				}
			}
		}
		l := list(at(side, 9, 5, 3, 7))
		wantPut(t, l, order(1, side, 9), list(at(side, 9, 5, 3, 7, 1)), api.OK)
		wantPut(t, l, order(4, side, 9), list(at(side, 9, 5, 3, 7, 4)), api.OK)
		wantPut(t, l, order(9, side, 9), list(at(side, 9, 5, 3, 7, 9)), api.OK)
	}
}

// P8.2: a price that isn't there yet: a new level, ahead of all, between two or behind all.
func TestPutNewLevel(t *testing.T) {
	for _, side := range []int{buy, sell} {
		for _, l := range rights(side) {
			for _, price := range []int{1, 2, 3, 5, 6, 8, 9, 10, 11, 12, 13, 500, 863, 996, 1001, maxPrice - 1, maxPrice} {
				if slices.ContainsFunc(l, func(v api.Level) bool { return v.Price == price }) {
					continue
				}
				i := 0
				for i < len(l) && (side == buy && l[i].Price > price || side == sell && l[i].Price < price) {
					i++
				}
				wantPut(t, l, order(900, side, price), slices.Insert(copied(l), i, at(side, price, 900)), api.OK)
			}
		}
	}
	wantPut(t, buys(), order(99, buy, 9), list(buys()[0], buys()[1], at(buy, 9, 99), buys()[2], buys()[3]), api.OK)
	wantPut(t, sells(), order(99, sell, 9), list(sells()[0], sells()[1], at(sell, 9, 99), sells()[2], sells()[3]), api.OK)
}

// P8.2: an order that may not rest, of which one number is enough.
func TestPutWrongOrder(t *testing.T) {
	for _, side := range []int{buy, sell} {
		for _, l := range [][]api.Level{nil, rights(side)[5]} {
			good := api.Order{Id: 99, Owner: 7, Side: side, Price: 9, Left: 4}
			wantErr := func(o api.Order, may bool) {
				t.Helper()
				if got, err := level.Put(l, o); may != (err == api.OK) || !may && (err != api.ErrArg || !same(got, l)) {
					t.Errorf("Put(%v, %v) = %v, %d", l, o, got, err)
				}
			}
			wantErr(good, true)
			wantErr(api.Order{}, false)
			for _, n := range numbers() {
				o := good
				o.Id = n
				_, found := level.Find(l, n)
				wantErr(o, n >= 1 && n <= maxId && !found)
				o = good
				o.Owner = n
				wantErr(o, n >= 0 && n < accounts)
				o = good
				o.Side = n
				wantErr(o, n == side || len(l) == 0 && n == 3-side)
				o = good
				o.Price = n
				wantErr(o, n >= 1 && n <= maxPrice)
				o = good
				o.Left = n
				wantErr(o, n >= 1 && n <= maxPrice)
			}
		}
	}
}

// P8.2: an Id that is there, at the same price or at another one.
func TestPutSameId(t *testing.T) {
	for _, side := range []int{buy, sell} {
		l := rights(side)[5]
		for _, o := range level.Orders(l) {
			wantPut(t, l, o, l, api.ErrArg)
			for _, price := range []int{1, 2, 3, 7, 9, 10, 11, 12, maxPrice} {
				wantPut(t, l, api.Order{Id: o.Id, Owner: 50, Side: side, Price: price, Left: 1}, l, api.ErrArg)
			}
		}
	}
}

// P8.2: a list that isn't valid, or is so for the other side alone, and it comes back as it was, levels without orders too.
func TestPutWrongList(t *testing.T) {
	for _, side := range []int{buy, sell} {
		for _, price := range []int{1, 7, 9, 10, maxPrice} {
			for _, l := range wrongs() {
				wantPut(t, l, order(900, side, price), l, api.ErrArg)
			}
			for _, l := range rights(3 - side)[2:] {
				wantPut(t, l, order(900, side, price), l, api.ErrArg)
			}
		}
	}
}

// P8.3: the order goes, with its level if it was alone there, and all else stays.
func TestRemove(t *testing.T) {
	wantRemove(t, list(at(buy, 9, 1)), 1, nil, order(1, buy, 9), true)
	wantRemove(t, list(at(sell, 9, 1), at(sell, 10, 2)), 1, list(at(sell, 10, 2)), order(1, sell, 9), true)
	wantRemove(t, list(at(sell, 9, 1), at(sell, 10, 2)), 2, list(at(sell, 9, 1)), order(2, sell, 10), true)
	for _, side := range []int{buy, sell} {
		for _, l := range rights(side) {
			for i, v := range l {
				for j, o := range v.Orders {
					want := with(l, i, slices.Delete(slices.Clone(v.Orders), j, j+1)...)
					if len(v.Orders) == 1 {
						want = slices.Delete(want, i, i+1)
					}
					wantRemove(t, l, o.Id, want, o, true)
				}
			}
		}
	}
}

// P8.3: an Id that isn't there.
func TestRemoveNone(t *testing.T) {
	for _, side := range []int{buy, sell} {
		for _, l := range rights(side) {
			for _, id := range append(numbers(), 4000, 4) {
				if _, found := level.Find(l, id); !found {
					wantRemove(t, l, id, l, api.Order{}, false)
				}
			}
		}
	}
}

// P8.3: of lists that aren't valid the first order of the Id goes alone, and so do levels without orders, whether the Id is there or not.
func TestRemoveAnywhere(t *testing.T) {
	a, b, c := order(5, buy, 9), order(5, sell, 3), order(6, 0, -1)
	zero := api.Order{}
	wantRemove(t, list(api.Level{Price: 9}), 5, nil, zero, false)
	wantRemove(t, make([]api.Level, 3), 0, nil, zero, false)
	gaps := list(api.Level{}, api.Level{Price: 4, Orders: []api.Order{c, b, a}}, api.Level{Price: 4}, api.Level{}, api.Level{Price: 4, Orders: []api.Order{a, a}}, api.Level{Price: -7, Orders: []api.Order{zero}}, api.Level{Price: 2})
	filled := list(gaps[1], gaps[4], gaps[5])
	wantRemove(t, gaps, 9, filled, zero, false)
	wantRemove(t, gaps, math.MinInt, filled, zero, false)
	wantRemove(t, gaps, 5, with(filled, 0, c, a), b, true)
	wantRemove(t, gaps, 6, with(filled, 0, b, a), c, true)
	wantRemove(t, gaps, 0, filled[:2], zero, true)
	wantRemove(t, gaps[2:], 5, list(api.Level{Price: 4, Orders: []api.Order{a}}, gaps[5]), a, true)
	wantRemove(t, list(at(buy, 9, 1), at(buy, 9, 1)), 1, list(at(buy, 9, 1)), order(1, buy, 9), true)
	wantRemove(t, list(at(buy, 9, 3, 1), at(buy, 9, 1)), 1, list(at(buy, 9, 3), at(buy, 9, 1)), order(1, buy, 9), true)
	for _, id := range numbers() {
		l := list(at(buy, 4), at(buy, 9, 77, id, 78), at(buy, 3, id), at(buy, 4))
		wantRemove(t, l, id, list(at(buy, 9, 77, 78), at(buy, 3, id)), order(id, buy, 9), true)
	}
}

// P8.4: each order is found by its Id.
func TestFind(t *testing.T) {
	for _, l := range append(rights(buy), rights(sell)...) {
		there := map[int]api.Order{}
		for _, v := range l {
			for _, o := range v.Orders {
				there[o.Id] = o
			}
		}
		for _, id := range append(numbers(), 4, 8, 12, 122, 123) {
			o, found := there[id]
			wantFind(t, l, id, o, found)
		}
		for id, o := range there {
			wantFind(t, l, id, o, true)
		}
	}
}

// P8.4: so it is for lists that aren't valid, of which the first order of the Id counts.
func TestFindAnywhere(t *testing.T) {
	a, b := order(5, buy, 9), order(5, sell, 3)
	l := list(api.Level{Price: 5}, api.Level{Orders: []api.Order{{}, b, a}}, api.Level{Price: 9, Orders: []api.Order{a, {Owner: 4}}})
	wantFind(t, l, 5, b, true)
	wantFind(t, l[2:], 5, a, true)
	wantFind(t, l, 0, api.Order{}, true)
	wantFind(t, l[2:], 0, api.Order{Owner: 4}, true)
	wantFind(t, l, 9, api.Order{}, false)
	wantFind(t, l[:1], 5, api.Order{}, false)
	for _, id := range numbers() {
		wantFind(t, list(at(buy, 9, 77), at(sell, 3, 78, id), at(sell, 3, id)), id, order(id, sell, 3), true)
	}
}

// P8.5, P8.6, P8.7: the first order, how many there are, and all of them, level after level.
func TestOrders(t *testing.T) {
	wantOrders(t, nil)
	wantOrders(t, []api.Level{})
	wantOrders(t, list(at(sell, 9, 1)), order(1, sell, 9))
	wantOrders(t, buys(), order(8, buy, 11), order(2, buy, 10), order(9, buy, 10), order(5, buy, 10), order(3, buy, 7), order(1, buy, 7), order(12, buy, 2))
	wantOrders(t, sells(), order(12, sell, 3), order(1, sell, 7), order(3, sell, 7), order(5, sell, 10), order(9, sell, 10), order(2, sell, 10), order(8, sell, 12))
	for _, l := range all() {
		want := []api.Order{}
		for _, v := range l {
			want = append(want, v.Orders...)
		}
		wantOrders(t, l, want...)
	}
}

// P8.5, P8.6, P8.7: so it is for lists that aren't valid; levels without orders have none to tell.
func TestOrdersAnywhere(t *testing.T) {
	wantOrders(t, list(api.Level{Price: 9}))
	wantOrders(t, make([]api.Level, 5))
	wantOrders(t, list(api.Level{Price: 9}, api.Level{}, at(buy, 3, 1, 1), api.Level{}, at(sell, 8, 0)), order(1, buy, 3), order(1, buy, 3), order(0, sell, 8))
	wantOrders(t, list(at(buy, 3, 2), at(buy, 7, 1), at(buy, 5, 3)), order(2, buy, 3), order(1, buy, 7), order(3, buy, 5))
	wantOrders(t, list(api.Level{Orders: make([]api.Order, 2)}), api.Order{}, api.Order{})
}

// comesFirst tells which of two orders of a side comes first, of which a arrived ahead of b.
func comesFirst(side int, a, b api.Order) int {
	switch {
	case a.Price == b.Price:
		return 0
	case (a.Price > b.Price) == (side == buy):
		return -1
	}
	return 1
}

// wantModel wants l to be a valid list of the orders, which are told in the order of their arrival.
func wantModel(t *testing.T, l []api.Level, side int, arrived []api.Order) {
	t.Helper()
	want := slices.Clone(arrived)
	slices.SortStableFunc(want, func(a, b api.Order) int { return comesFirst(side, a, b) })
	wantOrders(t, l, want...)
	wantRight(t, l, side, true)
	for _, o := range arrived {
		wantFind(t, l, o.Id, o, true)
	}
	if t.Failed() {
		t.FailNow()
	}
}

// P8.8, P8.9: many orders that come and go, at few prices and at many, held against a list by arrival.
func TestMany(t *testing.T) {
	for _, side := range []int{buy, sell} {
		for _, prices := range []int{2, 5, 40, maxPrice} {
			l, arrived := []api.Level(nil), []api.Order{}
			picks := mixed(3200, 1<<30)
			for i := 0; i < len(picks); i += 4 {
				id := 1 + picks[i]%60
				at := slices.IndexFunc(arrived, func(o api.Order) bool { return o.Id == id })
				o := api.Order{Id: id, Owner: picks[i+1] % accounts, Side: side, Price: 1 + picks[i+2]%prices, Left: 1 + picks[i+3]%maxPrice}
				if at < 0 {
					put, err := level.Put(l, o)
					if err != api.OK {
						t.Fatalf("Put(%v, %v): %d", l, o, err)
					}
					arrived = append(arrived, o)
					l = put
				} else if picks[i+3]%3 == 0 {
					wantPut(t, l, o, l, api.ErrArg)
				} else {
					left, removed, found := level.Remove(l, id)
					if !found || removed != arrived[at] {
						t.Fatalf("Remove(%v, %d): %v, %t", l, id, removed, found)
					}
					arrived = slices.Delete(arrived, at, at+1)
					wantFind(t, left, id, api.Order{}, false)
					l = left
				}
				wantModel(t, l, side, arrived)
			}
		}
	}
}

// P8.8: what was put is found and can be removed again, which leaves the list as it was.
func TestPutAndRemoved(t *testing.T) {
	for _, side := range []int{buy, sell} {
		for _, l := range rights(side) {
			for _, price := range []int{1, 2, 3, 7, 9, 10, 11, 12, 996, maxPrice} {
				o := api.Order{Id: 901, Owner: 63, Side: side, Price: price, Left: maxPrice}
				put, err := level.Put(l, o)
				if err != api.OK {
					t.Fatalf("Put(%v, %v): %d", l, o, err)
				}
				wantRight(t, put, side, true)
				wantFind(t, put, 901, o, true)
				wantRemove(t, put, 901, l, o, true)
			}
		}
	}
}

// spare is an order that lies behind the end of lists.
func spare() api.Order {
	return api.Order{Id: 555, Owner: 55, Side: 5, Price: 55, Left: 5}
}

// roomy is l with room behind its end and behind the end of each level's orders, in which other things lie.
func roomy(l []api.Level) []api.Level {
	room := []api.Level{}
	for _, v := range l {
		orders := append(slices.Clone(v.Orders), spare(), spare(), spare())
		room = append(room, api.Level{Price: v.Price, Orders: orders[:len(v.Orders)]})
	}
	return append(room, at(5, 55, 555), at(5, 55, 555))[:len(l)]
}

// wantRoomy wants l to be what roomy made of old.
func wantRoomy(t *testing.T, l, old []api.Level) {
	t.Helper()
	want := roomy(old)
	if !same(l, old) || !same(l[:len(l)+2], want[:len(l)+2]) {
		t.Fatalf("%v is there, want %v", l[:len(l)+2], want[:len(l)+2])
	}
	for i, v := range l {
		if n := len(v.Orders); !slices.Equal(v.Orders[:n+3], want[i].Orders[:n+3]) {
			t.Fatalf("%v is there, want %v", v.Orders[:n+3], want[i].Orders[:n+3])
		}
	}
}

// R3: neither a list that is handed in nor what is behind its end, or behind that of a level, is changed.
func TestUnchanged(t *testing.T) {
	for _, old := range all() {
		l := roomy(old)
		for _, id := range []int{0, 1, 2, 3, 5, 8, 9, 12, 77, 101, 900} {
			for _, price := range []int{0, 1, 7, 9, 10, 11, 12, 1000, maxPrice} {
				level.Put(l, order(id, buy, price))
				level.Put(l, order(id, sell, price))
			}
			level.Remove(l, id)
			level.Find(l, id)
		}
		level.Best(l)
		level.Count(l)
		level.Orders(l)
		level.Right(l, buy)
		level.Right(l, sell)
		wantRoomy(t, l, old)
	}
}

// scribbleOrders writes over all orders, and what is behind their end.
func scribbleOrders(l []api.Order) {
	for i := range l[:cap(l)] {
		l[:cap(l)][i] = spare()
	}
}

// wantOwn wants all slices of l to be memory of its own: writing over one of them changes neither the others nor old.
func wantOwn(t *testing.T, l, old []api.Level) {
	t.Helper()
	before, want := copied(old), copied(l)
	for i := range l {
		scribbleOrders(l[i].Orders)
		want[i].Orders = slices.Repeat([]api.Order{spare()}, len(want[i].Orders))
		if !same(l, want) || !same(old, before) {
			t.Fatalf("%v and %v, want %v and %v", l, old, want, before)
		}
	}
	for i := range l[:cap(l)] {
		l[:cap(l)][i] = api.Level{Price: 55}
	}
	if !same(old, before) {
		t.Fatalf("%v, want %v", old, before)
	}
}

// R3: lists that are told share nothing with the one that was handed in, nor do the slices of one share any.
func TestNew(t *testing.T) {
	for _, side := range []int{buy, sell} {
		for _, old := range rights(side) {
			l := roomy(old)
			for _, price := range []int{1, 3, 7, 9, 10, 12, maxPrice} {
				put, _ := level.Put(l, order(901, side, price))
				wantOwn(t, put, l)
			}
			for _, o := range level.Orders(old) {
				left, _, _ := level.Remove(l, o.Id)
				wantOwn(t, left, l)
			}
			scribbleOrders(level.Orders(l))
			wantRoomy(t, l, old)
		}
	}
	gaps := list(api.Level{}, at(buy, 9, 1, 2), at(buy, 5), at(buy, 4, 3))
	left, _, _ := level.Remove(gaps, 2)
	wantOwn(t, left, gaps)
}

// R3: what was told stays so when the same list is put to use again.
func TestKept(t *testing.T) {
	l, _ := level.Put(buys(), order(40, buy, 10))
	first, _ := level.Put(l, order(41, buy, 10))
	before := copied(first)
	level.Put(l, order(42, buy, 10))
	level.Put(l, order(43, buy, 9))
	level.Remove(l, 2)
	level.Remove(first, 8)
	if !same(first, before) {
		t.Errorf("%v, want %v", first, before)
	}
}

// R4: the same answer each time.
func TestAgain(t *testing.T) {
	want, _ := level.Put(long(sell), order(901, sell, 77))
	for range 20 {
		wantPut(t, long(sell), order(901, sell, 77), want, api.OK)
		wantRemove(t, want, 901, long(sell), order(901, sell, 77), true)
	}
}

// R1: no call panics, whatever it is given.
func TestNoPanic(t *testing.T) {
	for _, l := range all() {
		for _, n := range numbers() {
			level.Right(l, n)
			level.Put(l, api.Order{Id: n, Owner: n, Side: n, Price: n, Left: n})
			level.Put(l, api.Order{Id: 900, Owner: 1, Side: buy, Price: n, Left: 1})
			level.Remove(l, n)
			level.Find(l, n)
			level.Right(append(copied(l), api.Level{Price: n}), buy)
		}
		level.Best(l)
		level.Count(l)
		level.Orders(l)
	}
}

// R1: a call ends soon for a list of very many orders too.
func TestVeryMany(t *testing.T) {
	l, wide := at(sell, 9), []api.Level{}
	for id := 1; id <= 200000; id++ {
		l.Orders = append(l.Orders, order(id, sell, 9))
		wide = append(wide, at(sell, id, id))
	}
	for _, many := range [][]api.Level{list(l), wide} {
		put, err := level.Put(many, order(maxId, sell, 9))
		if err != api.OK || level.Count(put) != 200001 {
			t.Errorf("Put: %d orders, %d", level.Count(put), err)
		}
		left, o, found := level.Remove(put, 150000)
		if o.Id != 150000 || !found || level.Count(left) != 200000 {
			t.Errorf("Remove: %v, %t, %d orders", o, found, level.Count(left))
		}
	}
}
