package lane_test

import (
	"math"
	"slices"
	"testing"

	"cambist/account"
	"cambist/api"
	"cambist/lane"
)

// The limits, by the chapter's own figures and those of the list of limits.
const (
	most      = 1125899906842624
	maxPrice  = 1048576
	maxId     = 1073741824
	accounts  = 64
	assets    = 8
	maxOrders = 40
	buy, sell = 1, 2
)

// numbers are ints of all sorts: the least and the greatest ones, and those about each limit.
func numbers() []int {
	return []int{math.MinInt, math.MinInt + 1, math.MinInt32, -most, -8, -2, -1, 0, 1, 2, 3, 5, 6, 7, 8, 9, 10, 39, 40, 41, 63, 64, 65, 255, maxPrice - 1, maxPrice, maxPrice + 1, maxId, maxId + 1, most, most + 1, math.MaxInt - 1, math.MaxInt}
}

func isAsset(n int) bool {
	return n >= 0 && n < assets
}

func order(id, owner, side, price, left int) api.Order {
	return api.Order{Id: id, Owner: owner, Side: side, Price: price, Left: left}
}

func fill(id, owner, price, qty int, done bool) api.Fill {
	return api.Fill{Order: id, Owner: owner, Price: price, Qty: qty, Done: done}
}

func purse(account, asset int) api.Purse {
	return api.Purse{Account: account, Asset: asset}
}

func hold(account, asset, amount int) api.Holding {
	return api.Holding{Purse: purse(account, asset), Amount: amount}
}

func list(l ...api.Holding) []api.Holding {
	return l
}

// sortedSide is the orders of one side, which are told in the order of their arrival, as levels.
func sortedSide(side int, arrived []api.Order) []api.Level {
	l := []api.Level{}
	for _, o := range arrived {
		if o.Side != side {
			continue
		}
		i := 0
		for i < len(l) && (side == buy && l[i].Price > o.Price || side == sell && l[i].Price < o.Price) {
			i++
		}
		if i == len(l) || l[i].Price != o.Price {
			l = slices.Insert(l, i, api.Level{Price: o.Price})
		}
		l[i].Orders = append(l[i].Orders, o)
	}
	return l
}

// booked is the book of orders that are told in the order of their arrival.
func booked(next int, arrived ...api.Order) api.Book {
	return api.Book{Buys: sortedSide(buy, arrived), Sells: sortedSide(sell, arrived), Next: next}
}

// laned is a lane of asset 1 for asset 2.
func laned(next int, owed []api.Holding, arrived ...api.Order) api.Lane {
	return api.Lane{Base: 1, Quote: 2, Book: booked(next, arrived...), Owed: owed}
}

// crowd is count orders of side from Id first on, all of owner, at price and the ones that are further and further from the other side's.
func crowd(count, first, owner, side, price, left int) []api.Order {
	l := []api.Order{}
	for i := range count {
		at := price + i/2
		if side == buy {
			at = price - i/2
		}
		l = append(l, order(first+i, owner, side, at, left))
	}
	return l
}

// plain is a lane of several owners' orders, in which something is owed.
func plain() api.Lane {
	return laned(20, list(hold(3, 1, 6), hold(3, 2, 80), hold(4, 2, 11), hold(7, 1, 5), hold(63, 2, most)),
		order(9, 3, buy, 9, 4), order(3, 4, buy, 10, 5), order(7, 5, buy, 7, 1), order(4, 6, buy, 10, 6),
		order(8, 7, sell, 12, 4), order(2, 3, sell, 14, 5), order(13, 8, sell, 12, 1), order(5, 9, sell, 15, 2))
}

// rich is the free holdings of many accounts, which have enough of the assets 1 and 2, and something of others.
func rich() []api.Holding {
	l := []api.Holding{}
	for id := range 50 {
		l = append(l, hold(id, 0, 3), hold(id, 1, 1<<21), hold(id, 2, 1<<41), hold(id, 7, most))
	}
	return l
}

// owedToAll is that each account is owed the greatest amount of the assets 1 and 2.
func owedToAll() []api.Holding {
	l := []api.Holding{}
	for id := range accounts {
		l = append(l, hold(id, 1, most), hold(id, 2, most))
	}
	return l
}

// rights are valid lanes of all sorts.
func rights() []api.Lane {
	b := booked(3, order(1, 0, buy, 9, 1), order(2, 0, sell, 10, 1))
	return []api.Lane{
		{Base: 0, Quote: 1, Book: api.Book{Next: 1}},
		{Base: 7, Quote: 0, Book: b, Owed: []api.Holding{}},
		{Base: 6, Quote: 7, Book: b, Owed: list(hold(0, 7, 1), hold(1, 6, 2), hold(1, 7, 3))},
		{Base: 7, Quote: 6, Book: api.Book{Next: maxId}, Owed: list(hold(63, 6, most), hold(63, 7, most))},
		laned(1, nil), laned(maxId, owedToAll()), plain(),
		laned(1000, list(hold(1, 1, 1)), crowd(40, 100, 1, buy, 50, 3)...),
		laned(1000, list(hold(1, 2, 1)), crowd(40, 100, 1, sell, 50, 3)...),
		laned(1000, owedToAll(), append(crowd(20, 100, 1, buy, 50, 3), crowd(20, 200, 2, sell, 60, 3)...)...),
	}
}

// wrongs are lanes that are not valid, each for one reason.
func wrongs() []api.Lane {
	b, s := order(1, 0, buy, 9, 1), order(2, 0, sell, 10, 1)
	good := booked(3, b, s)
	l := []api.Lane{
		{}, {Base: 1, Quote: 2}, {Book: api.Book{Next: 1}}, {Base: 3, Quote: 3, Book: good},
		{Base: -1, Quote: 2, Book: good}, {Base: 1, Quote: -1, Book: good}, {Base: 8, Quote: 2, Book: good}, {Base: 1, Quote: 8, Book: good},
		{Base: 8, Quote: 2, Book: good, Owed: list(hold(1, 2, 1))},
		laned(0, nil), laned(-1, nil), laned(maxId+1, nil), laned(2, nil, b, s), laned(9, nil, b, b), laned(9, nil, b, order(1, 3, sell, 12, 1)),
		laned(9, nil, b, order(2, 0, sell, 9, 1)), laned(9, nil, order(1, 64, buy, 9, 1)), laned(9, nil, order(1, 1, sell, 9, 0)), laned(9, nil, order(1, 1, buy, maxPrice+1, 1)),
		laned(1000, nil, crowd(41, 100, 1, buy, 50, 3)...),
		laned(1000, nil, append(crowd(20, 100, 1, buy, 50, 3), crowd(21, 200, 2, sell, 60, 3)...)...),
		{Base: 1, Quote: 2, Book: api.Book{Next: 9, Buys: good.Sells}}, {Base: 1, Quote: 2, Book: api.Book{Next: 9, Sells: good.Buys}},
		{Base: 1, Quote: 2, Book: api.Book{Next: 9, Buys: make([]api.Level, 1)}},
	}
	for _, owed := range append(wrongHoldings(), list(hold(1, 0, 5)), list(hold(1, 3, 5)), list(hold(1, 7, 5)), list(hold(1, 1, 5), hold(1, 2, 5), hold(1, 3, 5)), list(hold(0, 0, 1), hold(1, 1, 5))) {
		l = append(l, laned(3, owed, b, s))
	}
	return l
}

// wrongHoldings are lists of holdings that are not valid, each for one reason.
func wrongHoldings() [][]api.Holding {
	return [][]api.Holding{
		{{}}, list(hold(1, 1, 0)), list(hold(1, 1, -1)), list(hold(1, 2, most+1)), list(hold(64, 1, 5)), list(hold(-1, 2, 5)), list(hold(1, 8, 5)), list(hold(1, -1, 5)),
		list(hold(1, 1, 5), hold(1, 1, 5)), list(hold(1, 2, 5), hold(1, 1, 5)), list(hold(2, 1, 5), hold(1, 2, 5)), list(hold(1, 1, 5), hold(2, 2, 5), hold(2, 2, 6)),
	}
}

// copied is l in memory of its own, level by level.
func copied(l api.Lane) api.Lane {
	levels := func(l []api.Level) []api.Level {
		own := []api.Level{}
		for _, v := range l {
			own = append(own, api.Level{Price: v.Price, Orders: append([]api.Order{}, v.Orders...)})
		}
		return own
	}
	b := api.Book{Buys: levels(l.Book.Buys), Sells: levels(l.Book.Sells), Next: l.Book.Next}
	return api.Lane{Base: l.Base, Quote: l.Quote, Book: b, Owed: append([]api.Holding{}, l.Owed...)}
}

// same tells whether a and b hold the same, of which nil and empty lists are alike.
func same(a, b api.Lane) bool {
	equal := func(v, w api.Level) bool { return v.Price == w.Price && slices.Equal(v.Orders, w.Orders) }
	return a.Base == b.Base && a.Quote == b.Quote && a.Book.Next == b.Book.Next &&
		slices.EqualFunc(a.Book.Buys, b.Book.Buys, equal) && slices.EqualFunc(a.Book.Sells, b.Book.Sells, equal) &&
		slices.Equal(a.Owed, b.Owed)
}

// ordersOf are all orders of l.
func ordersOf(l api.Lane) []api.Order {
	orders := []api.Order{}
	for _, v := range slices.Concat(l.Book.Buys, l.Book.Sells) {
		orders = append(orders, v.Orders...)
	}
	return orders
}

// incoming is what is handed to Place beside the lane and what is free.
type incoming struct {
	owner, side, price, qty int
	rest                    bool
}

// state is a lane and what is free beside it.
type state struct {
	lane api.Lane
	free []api.Holding
}

// result is what Place answers.
type result struct {
	state
	fills []api.Fill
	id    int
	err   api.Errno
}

func place(s state, o incoming) result {
	r := result{}
	r.lane, r.free, r.fills, r.id, r.err = lane.Place(s.lane, s.free, o.owner, o.side, o.price, o.qty, o.rest)
	return r
}

// copy is s in memory of its own.
func (s state) copy() state {
	return state{copied(s.lane), append([]api.Holding{}, s.free...)}
}

func (s state) same(o state) bool {
	return same(s.lane, o.lane) && slices.Equal(s.free, o.free)
}

func wantPlace(t *testing.T, s state, o incoming, want result) {
	t.Helper()
	before := s.copy()
	got := place(s, o)
	if !got.same(want.state) || !slices.Equal(got.fills, want.fills) || got.id != want.id || got.err != want.err || !s.same(before) {
		t.Errorf("Place(%v, %v) = %v, want %v", before, o, got, want)
	}
}

// wantPlaced wants Place to answer the lane and the free holdings after, the Id of what rests and the fills.
func wantPlaced(t *testing.T, s state, o incoming, after state, id int, fills ...api.Fill) state {
	t.Helper()
	wantPlace(t, s, o, result{state: after, fills: fills, id: id})
	return place(s, o).state
}

// wantError wants Place to answer the error, all as it was, and nothing else.
func wantError(t *testing.T, s state, o incoming, err api.Errno) {
	t.Helper()
	wantPlace(t, s, o, result{state: s.copy(), err: err})
}

func wantCancel(t *testing.T, s state, owner, id int, want state, wantReleased int, wantErr api.Errno) {
	t.Helper()
	before, got := s.copy(), state{}
	var released int
	var err api.Errno
	got.lane, got.free, released, err = lane.Cancel(s.lane, s.free, owner, id)
	if !got.same(want) || released != wantReleased || err != wantErr || !s.same(before) {
		t.Errorf("Cancel(%v, %d, %d) = %v, %d, %d, want %v, %d, %d", before, owner, id, got, released, err, want, wantReleased, wantErr)
	}
}

func wantCollect(t *testing.T, s state, owner int, want state, wantBase, wantQuote int, wantErr api.Errno) {
	t.Helper()
	before, got := s.copy(), state{}
	var base, quote int
	var err api.Errno
	got.lane, got.free, base, quote, err = lane.Collect(s.lane, s.free, owner)
	if !got.same(want) || base != wantBase || quote != wantQuote || err != wantErr || !s.same(before) {
		t.Errorf("Collect(%v, %d) = %v, %d, %d, %d, want %v, %d, %d, %d", before, owner, got, base, quote, err, want, wantBase, wantQuote, wantErr)
	}
}

func wantReserved(t *testing.T, l api.Lane, asset, want int) {
	t.Helper()
	if got := lane.Reserved(l, asset); got != want {
		t.Errorf("Reserved(%v, %d) = %d, want %d", l, asset, got, want)
	}
}

func wantOwed(t *testing.T, l api.Lane, asset, want int) {
	t.Helper()
	if got := lane.Owed(l, asset); got != want {
		t.Errorf("Owed(%v, %d) = %d, want %d", l, asset, got, want)
	}
}

func wantRight(t *testing.T, l api.Lane, want bool) {
	t.Helper()
	if got := lane.Right(l); got != want {
		t.Errorf("Right(%v) = %t, want %t", l, got, want)
	}
}

// P10.1, P10.2: the limits and the sides are the document's.
func TestLimits(t *testing.T) {
	if api.MaxAssets != assets || api.MaxAccounts != accounts || api.MaxAmount != most || api.MaxPrice != maxPrice || api.MaxBallot != maxId || api.MaxOrders != maxOrders || api.Buy != buy || api.Sell != sell {
		t.Fatalf("MaxAssets is %d, MaxAccounts %d, MaxAmount %d, MaxPrice %d, MaxBallot %d, MaxOrders %d, Buy %d, Sell %d", api.MaxAssets, api.MaxAccounts, api.MaxAmount, api.MaxPrice, api.MaxBallot, api.MaxOrders, api.Buy, api.Sell)
	}
}

// P10.1: two different assets, and a lane without orders, in which nothing is owed.
func TestNew(t *testing.T) {
	for _, base := range append(numbers(), 4) {
		for _, quote := range append(numbers(), 4) {
			got, err := lane.New(base, quote)
			want, wantErr := api.Lane{Base: base, Quote: quote, Book: api.Book{Next: 1}}, api.OK
			if !isAsset(base) || !isAsset(quote) || base == quote {
				want, wantErr = api.Lane{}, api.ErrArg
			}
			if !same(got, want) || err != wantErr {
				t.Errorf("New(%d, %d) = %v, %d, want %v, %d", base, quote, got, err, want, wantErr)
			}
			wantRight(t, got, err == api.OK)
		}
	}
}

// P10.2: which lanes are valid, and which are not.
func TestRight(t *testing.T) {
	for _, l := range rights() {
		wantRight(t, l, true)
	}
	for _, l := range wrongs() {
		wantRight(t, l, false)
	}
}

// P10.2: Base and Quote are different assets.
func TestRightAssets(t *testing.T) {
	for _, base := range append(numbers(), 4) {
		for _, quote := range append(numbers(), 4) {
			l := plain()
			l.Base, l.Quote, l.Owed = base, quote, nil
			wantRight(t, l, isAsset(base) && isAsset(quote) && base != quote)
		}
	}
}

// P10.2: what is owed is valid, and of no other asset than these two, wherever it is in the list.
func TestRightOwed(t *testing.T) {
	for base := range assets {
		for quote := range assets {
			for asset := range assets {
				l := api.Lane{Base: base, Quote: quote, Book: api.Book{Next: 1}, Owed: list(hold(5, asset, 1))}
				wantRight(t, l, base != quote && (asset == base || asset == quote))
				l.Owed = append(list(hold(4, min(base, quote), 1), hold(4, max(base, quote), 1)), l.Owed...)
				wantRight(t, l, base != quote && (asset == base || asset == quote))
				l.Owed = append(l.Owed, hold(6, base, 1))
				wantRight(t, l, base != quote && (asset == base || asset == quote))
			}
		}
	}
	for i := range plain().Owed {
		for _, n := range numbers() {
			l := plain()
			l.Owed[i].Amount = n
			wantRight(t, l, n >= 1 && n <= most)
			l = plain()
			l.Owed[i].Purse.Asset = n
			// Account 3's holdings have neighbours of its own, of the other asset.
			wantRight(t, l, n == plain().Owed[i].Purse.Asset || i > 1 && (n == 1 || n == 2))
		}
	}
}

// P10.3: sellers reserve what is left of Base, buyers the price times that of Quote.
func TestReserved(t *testing.T) {
	l := laned(2, nil, order(1, 1, sell, 10, 5))
	for _, n := range numbers() {
		wantReserved(t, l, n, map[int]int{1: 5}[n])
		wantReserved(t, laned(2, nil, order(1, 1, buy, 10, 5)), n, map[int]int{2: 50}[n])
		wantReserved(t, laned(1, owedToAll()), n, 0)
		wantReserved(t, plain(), n, map[int]int{1: 12, 2: 4*9 + 5*10 + 7 + 6*10}[n])
	}
	l = plain()
	l.Base, l.Quote, l.Owed = 7, 0, nil
	for asset, want := range []int{153, 0, 0, 0, 0, 0, 0, 12} {
		wantReserved(t, l, asset, want)
	}
	// As much as can be.
	full := []api.Order{}
	for id := 1; id <= maxOrders; id++ {
		full = append(full, order(id, id, buy, maxPrice, maxPrice))
	}
	wantReserved(t, laned(41, nil, full...), 2, 40<<40)
	for i := range full {
		full[i].Side = sell
	}
	wantReserved(t, laned(41, nil, full...), 1, 40<<20)
	wantReserved(t, laned(41, nil, full...), 2, 0)
}

// P10.3: what is owed of the asset, to all together.
func TestOwed(t *testing.T) {
	for _, n := range numbers() {
		wantOwed(t, plain(), n, map[int]int{1: 11, 2: 91 + most}[n])
		wantOwed(t, laned(1, owedToAll()), n, map[int]int{1: 64 * most, 2: 64 * most}[n])
		wantOwed(t, laned(2, nil, order(1, 1, sell, 10, 5)), n, 0)
	}
}

// P10.3: nothing of either for a lane that is not valid, for whatever reason.
func TestReservedOwedWrong(t *testing.T) {
	for _, l := range wrongs() {
		for asset := -1; asset <= 8; asset++ {
			wantReserved(t, l, asset, 0)
			wantOwed(t, l, asset, 0)
		}
	}
	l := plain()
	l.Owed = append(l.Owed, hold(63, 3, 1))
	wantReserved(t, l, 1, 0)
	wantOwed(t, l, 1, 0)
	l = plain()
	l.Book.Next = 13
	wantReserved(t, l, 1, 0)
	wantOwed(t, l, 1, 0)
}

// P10.4, P10.5, P10.6: the chapter's example, from the first order to the last thing collected.
func TestChapter(t *testing.T) {
	s := state{laned(1, nil), list(hold(1, 1, 5), hold(2, 2, 100))}
	s = wantPlaced(t, s, incoming{1, sell, 10, 5, true}, state{laned(2, nil, order(1, 1, sell, 10, 5)), list(hold(2, 2, 100))}, 1)
	wantReserved(t, s.lane, 1, 5)
	wantError(t, s, incoming{2, buy, 9, 12, true}, api.ErrFunds)
	s = wantPlaced(t, s, incoming{2, buy, 12, 3, true}, state{laned(2, list(hold(1, 2, 30)), order(1, 1, sell, 10, 2)), list(hold(2, 1, 3), hold(2, 2, 70))}, 0, fill(1, 1, 10, 3, false))
	wantReserved(t, s.lane, 1, 2)
	wantOwed(t, s.lane, 2, 30)
	collected := state{laned(2, nil, order(1, 1, sell, 10, 2)), list(hold(1, 2, 30), hold(2, 1, 3), hold(2, 2, 70))}
	wantCollect(t, s, 1, collected, 0, 30, api.OK)
	wantCollect(t, collected, 1, collected, 0, 0, api.ErrNothing)
	wantCancel(t, collected, 1, 1, state{laned(2, nil), list(hold(1, 1, 2), hold(1, 2, 30), hold(2, 1, 3), hold(2, 2, 70))}, 2, api.OK)
}

// P10.4: the example at the chapter's end: the buyer pays the seller's price, not its own.
func TestExamples(t *testing.T) {
	s := state{laned(1, nil), list(hold(1, 1, 5), hold(2, 2, 60))}
	s = wantPlaced(t, s, incoming{1, sell, 10, 5, true}, state{laned(2, nil, order(1, 1, sell, 10, 5)), list(hold(2, 2, 60))}, 1)
	s = wantPlaced(t, s, incoming{2, buy, 12, 5, true}, state{laned(2, list(hold(1, 2, 50))), list(hold(2, 1, 5), hold(2, 2, 10))}, 0, fill(1, 1, 10, 5, true))
	wantCollect(t, s, 1, state{laned(2, nil), list(hold(1, 2, 50), hold(2, 1, 5), hold(2, 2, 10))}, 0, 50, api.OK)
	wantCollect(t, s, 2, s, 0, 0, api.ErrNothing)
}

// P10.4: an order that meets nothing pays for what rests of it, or for nothing if it may not rest.
func TestPlaceRests(t *testing.T) {
	free := list(hold(1, 0, 9), hold(1, 1, 5), hold(1, 2, 50), hold(2, 1, 7))
	s := state{laned(4, list(hold(1, 1, 3)), order(3, 2, sell, 11, 1)), free}
	rests := laned(5, list(hold(1, 1, 3)), order(3, 2, sell, 11, 1), order(4, 1, buy, 10, 5))
	wantPlaced(t, s, incoming{1, buy, 10, 5, true}, state{rests, list(hold(1, 0, 9), hold(1, 1, 5), hold(2, 1, 7))}, 4)
	rests = laned(5, list(hold(1, 1, 3)), order(3, 2, sell, 11, 1), order(4, 1, buy, 7, 7))
	wantPlaced(t, s, incoming{1, buy, 7, 7, true}, state{rests, list(hold(1, 0, 9), hold(1, 1, 5), hold(1, 2, 1), hold(2, 1, 7))}, 4)
	wantError(t, s, incoming{1, buy, 10, 6, true}, api.ErrFunds)
	wantError(t, s, incoming{1, buy, 3, 17, true}, api.ErrFunds)
	wantPlaced(t, s, incoming{1, buy, 10, 6, false}, s, 0)
	rests = laned(5, list(hold(1, 1, 3)), order(3, 2, sell, 11, 1), order(4, 1, sell, 99, 5))
	wantPlaced(t, s, incoming{1, sell, 99, 5, true}, state{rests, list(hold(1, 0, 9), hold(1, 2, 50), hold(2, 1, 7))}, 4)
	wantError(t, s, incoming{1, sell, 1, 6, true}, api.ErrFunds)
	wantPlaced(t, s, incoming{1, sell, 1, 6, false}, s, 0)
	// What is owed to it, an owner can't pay with.
	wantError(t, state{plain(), nil}, incoming{3, sell, 20, 1, true}, api.ErrFunds)
	wantError(t, state{plain(), nil}, incoming{3, buy, 1, 1, true}, api.ErrFunds)
	wantPlaced(t, state{plain(), nil}, incoming{3, buy, 1, 1, false}, state{plain(), nil}, 0)
}

// P10.4: a buyer pays each fill at its price, and what rests at its own one, in one sum; each seller is owed its part.
func TestPlaceBuyer(t *testing.T) {
	l := laned(9, list(hold(3, 1, 2), hold(4, 2, 5)), order(1, 4, sell, 10, 5), order(2, 5, sell, 12, 2), order(3, 4, sell, 12, 3), order(4, 6, sell, 20, 1))
	o := incoming{7, buy, 15, 14, true}
	// 5 at 10, 2 and 3 at 12, and 4 that rest at 15: 50 + 24 + 36 + 60.
	fills := []api.Fill{fill(1, 4, 10, 5, true), fill(2, 5, 12, 2, true), fill(3, 4, 12, 3, true)}
	after := laned(10, list(hold(3, 1, 2), hold(4, 2, 5+86), hold(5, 2, 24)), order(4, 6, sell, 20, 1), order(9, 7, buy, 15, 4))
	wantPlaced(t, state{l, list(hold(7, 2, 170))}, o, state{after, list(hold(7, 1, 10))}, 9, fills...)
	wantPlaced(t, state{l, list(hold(7, 1, 1), hold(7, 2, 175))}, o, state{after, list(hold(7, 1, 11), hold(7, 2, 5))}, 9, fills...)
	// Enough for the fills, not for the rest as well.
	for _, n := range []int{1, 50, 109, 110, 111, 169} {
		wantError(t, state{l, list(hold(7, 2, n))}, o, api.ErrFunds)
	}
	wantError(t, state{l, nil}, o, api.ErrFunds)
	wantError(t, state{l, list(hold(6, 2, 500), hold(7, 1, 500), hold(8, 2, 500))}, o, api.ErrFunds)
	o.rest = false
	after = laned(9, after.Owed, order(4, 6, sell, 20, 1))
	wantPlaced(t, state{l, list(hold(7, 2, 110))}, o, state{after, list(hold(7, 1, 10))}, 0, fills...)
	wantError(t, state{l, list(hold(7, 2, 109))}, o, api.ErrFunds)
}

// P10.4: a seller pays what is sold and what rests of Base, in one sum, and gets the buyers' prices; each buyer is owed its part.
func TestPlaceSeller(t *testing.T) {
	l := laned(9, list(hold(4, 2, 5), hold(8, 1, 2)), order(1, 4, buy, 10, 5), order(2, 5, buy, 8, 2), order(3, 4, buy, 8, 3), order(4, 6, buy, 2, 1))
	o := incoming{7, sell, 5, 14, true}
	fills := []api.Fill{fill(1, 4, 10, 5, true), fill(2, 5, 8, 2, true), fill(3, 4, 8, 3, true)}
	after := laned(10, list(hold(4, 1, 8), hold(4, 2, 5), hold(5, 1, 2), hold(8, 1, 2)), order(4, 6, buy, 2, 1), order(9, 7, sell, 5, 4))
	wantPlaced(t, state{l, list(hold(7, 1, 14))}, o, state{after, list(hold(7, 2, 90))}, 9, fills...)
	wantPlaced(t, state{l, list(hold(7, 1, 15), hold(7, 2, 3))}, o, state{after, list(hold(7, 1, 1), hold(7, 2, 93))}, 9, fills...)
	for _, n := range []int{1, 5, 9, 10, 11, 13} {
		wantError(t, state{l, list(hold(7, 1, n))}, o, api.ErrFunds)
	}
	wantError(t, state{l, nil}, o, api.ErrFunds)
	wantError(t, state{l, list(hold(6, 1, 500), hold(7, 2, 500), hold(8, 1, 500))}, o, api.ErrFunds)
	o.rest = false
	after = laned(9, after.Owed, order(4, 6, buy, 2, 1))
	wantPlaced(t, state{l, list(hold(7, 1, 10))}, o, state{after, list(hold(7, 2, 90))}, 0, fills...)
	wantError(t, state{l, list(hold(7, 1, 9))}, o, api.ErrFunds)
}

// P10.4: which assets are traded is the lane's matter.
func TestPlaceAssets(t *testing.T) {
	for base := range assets {
		for quote := range assets {
			if base == quote {
				continue
			}
			free := []api.Holding{}
			for asset := range assets {
				free = append(free, hold(9, asset, 100))
			}
			l := api.Lane{Base: base, Quote: quote, Book: booked(3, order(1, 4, sell, 10, 5), order(2, 5, buy, 8, 6))}
			bought, sold := slices.Clone(free), slices.Clone(free)
			bought[base].Amount, bought[quote].Amount = 105, 50
			sold[base].Amount, sold[quote].Amount = 94, 148
			after := api.Lane{Base: base, Quote: quote, Book: booked(3, order(2, 5, buy, 8, 6)), Owed: list(hold(4, quote, 50))}
			wantPlaced(t, state{l, free}, incoming{9, buy, 11, 5, true}, state{after, bought}, 0, fill(1, 4, 10, 5, true))
			after = api.Lane{Base: base, Quote: quote, Book: booked(3, order(1, 4, sell, 10, 5)), Owed: list(hold(5, base, 6))}
			wantPlaced(t, state{l, free}, incoming{9, sell, 7, 6, true}, state{after, sold}, 0, fill(2, 5, 8, 6, true))
		}
	}
}

// P10.4: the greatest prices and quantities, of which all sums are amounts.
func TestPlaceGreatest(t *testing.T) {
	orders := []api.Order{}
	owed := []api.Holding{}
	fills := []api.Fill{}
	for i := range maxOrders {
		qty := maxPrice / maxOrders
		orders = append(orders, order(1+i, i, sell, maxPrice, qty))
		owed = append(owed, hold(i, 2, maxPrice*qty))
		fills = append(fills, fill(1+i, i, maxPrice, qty, true))
	}
	left := maxPrice - maxPrice/maxOrders*maxOrders
	o := incoming{50, buy, maxPrice, maxPrice, true}
	after := laned(42, owed, order(41, 50, buy, maxPrice, left))
	wantPlaced(t, state{laned(41, nil, orders...), list(hold(50, 2, 1<<40))}, o, state{after, list(hold(50, 1, maxPrice-left))}, 41, fills...)
	wantError(t, state{laned(41, nil, orders...), list(hold(50, 2, 1<<40-1))}, o, api.ErrFunds)
	s := order(1, 63, sell, maxPrice, maxPrice)
	wantPlaced(t, state{laned(2, list(hold(63, 2, most-1<<40)), s), list(hold(0, 1, most-1<<20), hold(0, 2, most))}, incoming{0, buy, maxPrice, maxPrice, false},
		state{laned(2, list(hold(63, 2, most))), list(hold(0, 1, most), hold(0, 2, most-1<<40))}, 0, fill(1, 63, maxPrice, maxPrice, true))
	b := order(1, 63, buy, maxPrice, maxPrice)
	wantPlaced(t, state{laned(2, list(hold(63, 1, most-1<<20)), b), list(hold(0, 1, most), hold(0, 2, most-1<<40))}, incoming{0, sell, maxPrice, maxPrice, false},
		state{laned(2, list(hold(63, 1, most))), list(hold(0, 1, most-1<<20), hold(0, 2, most))}, 0, fill(1, 63, maxPrice, maxPrice, true))
}

// P10.4: a lane or free holdings that aren't valid, and they come back as they were.
func TestPlaceWrong(t *testing.T) {
	orders := []incoming{{1, buy, 9, 2, true}, {40, buy, 15, 20, true}, {40, sell, 1, 1, false}, {64, 3, 0, 0, true}}
	for _, o := range orders {
		for _, l := range wrongs() {
			wantError(t, state{l, nil}, o, api.ErrArg)
			wantError(t, state{l, rich()}, o, api.ErrArg)
			wantError(t, state{l, list(hold(1, 1, 0))}, o, api.ErrArg)
		}
		for _, free := range append(wrongHoldings(), append(rich(), hold(49, 7, 1)), append(rich(), hold(64, 0, 1))) {
			wantError(t, state{plain(), free}, o, api.ErrArg)
			wantError(t, state{laned(1, nil), free}, o, api.ErrArg)
		}
	}
	// Orders that the book wouldn't take, and one by which too much would be owed.
	for _, free := range wrongHoldings() {
		wantError(t, state{plain(), free}, incoming{7, buy, 12, 1, true}, api.ErrArg)
		wantError(t, state{laned(maxId, nil), free}, incoming{7, buy, 12, 1, true}, api.ErrArg)
		wantError(t, state{laned(2, owedToAll(), order(1, 1, buy, 9, 1)), free}, incoming{5, sell, 9, 1, true}, api.ErrArg)
	}
}

// P10.4: the book's errors come as they are, ahead of those of what is owed and free.
func TestPlaceBookErrors(t *testing.T) {
	s := state{plain(), rich()}
	for _, n := range numbers() {
		if n < 0 || n >= accounts {
			wantError(t, s, incoming{n, buy, 9, 2, true}, api.ErrArg)
		}
		if n < 1 || n > 2 {
			wantError(t, s, incoming{1, n, 9, 2, true}, api.ErrArg)
		}
		if n < 1 || n > maxPrice {
			wantError(t, s, incoming{1, buy, n, 2, true}, api.ErrArg)
			wantError(t, s, incoming{1, sell, 9, n, false}, api.ErrArg)
		}
	}
	for _, free := range [][]api.Holding{nil, rich()} {
		s := state{plain(), free}
		wantError(t, s, incoming{7, buy, 12, 1, true}, api.ErrSelf)
		wantError(t, s, incoming{3, buy, 14, 6, false}, api.ErrSelf)
		wantError(t, s, incoming{4, sell, 10, 1, true}, api.ErrSelf)
		s = state{laned(1000, owedToAll(), append(crowd(20, 100, 1, buy, 50, 3), crowd(20, 200, 2, sell, 60, 3)...)...), free}
		wantError(t, s, incoming{5, buy, 59, 1, true}, api.ErrFull)
		wantError(t, s, incoming{5, sell, 51, 1, true}, api.ErrFull)
		wantError(t, s, incoming{2, buy, 60, 1, true}, api.ErrSelf)
		wantError(t, state{laned(maxId, owedToAll(), order(1, 1, buy, 9, 1)), free}, incoming{5, sell, 9, 2, true}, api.ErrFull)
	}
}

// P10.4: no owner of a resting order can be owed more than an amount, of one fill or of several together.
func TestPlaceOwedOver(t *testing.T) {
	o, free := incoming{7, buy, 12, 10, true}, list(hold(7, 2, 1000))
	sells := []api.Order{order(1, 4, sell, 10, 5), order(2, 5, sell, 12, 2), order(3, 4, sell, 12, 3)}
	fills := []api.Fill{fill(1, 4, 10, 5, true), fill(2, 5, 12, 2, true), fill(3, 4, 12, 3, true)}
	for _, n := range []int{most, most - 1, most - 49, most - 50, most - 85} {
		wantError(t, state{laned(9, list(hold(4, 2, n)), sells...), free}, o, api.ErrOver)
	}
	wantPlaced(t, state{laned(9, list(hold(4, 2, most-86), hold(5, 2, most-24)), sells...), free}, o,
		state{laned(9, list(hold(4, 2, most), hold(5, 2, most))), list(hold(7, 1, 10), hold(7, 2, 1000-110))}, 0, fills...)
	wantError(t, state{laned(9, list(hold(5, 2, most-23)), sells...), free}, o, api.ErrOver)
	// The other asset's and others' holdings have no say.
	wantPlaced(t, state{laned(9, list(hold(4, 1, most), hold(5, 1, most), hold(6, 2, most), hold(7, 2, most)), sells...), free}, o,
		state{laned(9, list(hold(4, 1, most), hold(4, 2, 86), hold(5, 1, most), hold(5, 2, 24), hold(6, 2, most), hold(7, 2, most))), list(hold(7, 1, 10), hold(7, 2, 1000-110))}, 0, fills...)
	b := order(1, 4, buy, 10, 5)
	wantError(t, state{laned(9, list(hold(4, 1, most-4)), b), list(hold(7, 1, 9))}, incoming{7, sell, 3, 9, true}, api.ErrOver)
	wantPlaced(t, state{laned(9, list(hold(4, 1, most-5), hold(4, 2, most)), b), list(hold(7, 1, 9))}, incoming{7, sell, 3, 9, true},
		state{laned(10, list(hold(4, 1, most), hold(4, 2, most)), order(9, 7, sell, 3, 4)), list(hold(7, 2, 50))}, 9, fill(1, 4, 10, 5, true))
}

// P10.4: nobody can have more than an amount free, after the payment.
func TestPlaceFreeOver(t *testing.T) {
	l := laned(9, nil, order(1, 4, sell, 10, 5), order(2, 5, buy, 8, 6))
	bought, sold := laned(9, list(hold(4, 2, 50)), order(2, 5, buy, 8, 6)), laned(9, list(hold(5, 1, 6)), order(1, 4, sell, 10, 5))
	o, f := incoming{7, buy, 10, 5, true}, fill(1, 4, 10, 5, true)
	wantError(t, state{l, list(hold(7, 1, most), hold(7, 2, 50))}, o, api.ErrOver)
	wantError(t, state{l, list(hold(7, 1, most-4), hold(7, 2, 50))}, o, api.ErrOver)
	wantPlaced(t, state{l, list(hold(7, 1, most-5), hold(7, 2, 50))}, o, state{bought, list(hold(7, 1, most))}, 0, f)
	o, f = incoming{7, sell, 8, 6, true}, fill(2, 5, 8, 6, true)
	wantError(t, state{l, list(hold(7, 1, 6), hold(7, 2, most))}, o, api.ErrOver)
	wantError(t, state{l, list(hold(7, 1, 6), hold(7, 2, most-47))}, o, api.ErrOver)
	wantPlaced(t, state{l, list(hold(7, 1, 6), hold(7, 2, most-48))}, o, state{sold, list(hold(7, 2, most))}, 0, f)
	// What rests gives nothing, and others' holdings have no say.
	full := list(hold(3, 1, most), hold(4, 2, most), hold(5, 1, most), hold(7, 1, most), hold(7, 2, most), hold(8, 1, most))
	wantPlaced(t, state{l, full}, incoming{7, buy, 9, 5, true}, state{laned(10, nil, order(1, 4, sell, 10, 5), order(2, 5, buy, 8, 6), order(9, 7, buy, 9, 5)),
		list(hold(3, 1, most), hold(4, 2, most), hold(5, 1, most), hold(7, 1, most), hold(7, 2, most-45), hold(8, 1, most))}, 9)
	wantError(t, state{l, full}, o, api.ErrOver)
	free := list(hold(3, 1, most), hold(4, 2, most), hold(5, 1, most), hold(7, 1, most), hold(8, 1, most), hold(8, 2, most))
	wantPlaced(t, state{l, free}, o, state{sold, list(hold(3, 1, most), hold(4, 2, most), hold(5, 1, most), hold(7, 1, most-6), hold(7, 2, 48), hold(8, 1, most), hold(8, 2, most))}, 0, f)
}

// P10.4: what is owed counts ahead of the payment, and that ahead of what is got.
func TestPlaceErrors(t *testing.T) {
	l := laned(9, list(hold(4, 2, most), hold(5, 1, most)), order(1, 4, sell, 10, 5), order(2, 5, buy, 8, 6))
	wantError(t, state{l, nil}, incoming{7, buy, 10, 1, false}, api.ErrOver)
	wantError(t, state{l, nil}, incoming{7, sell, 8, 1, false}, api.ErrOver)
	l.Owed = nil
	wantError(t, state{l, list(hold(7, 1, most))}, incoming{7, buy, 10, 1, false}, api.ErrFunds)
	wantError(t, state{l, list(hold(7, 2, most))}, incoming{7, sell, 8, 1, false}, api.ErrFunds)
	wantError(t, state{l, list(hold(7, 1, most), hold(7, 2, 10))}, incoming{7, buy, 10, 1, false}, api.ErrOver)
	wantError(t, state{l, list(hold(7, 1, 1), hold(7, 2, most))}, incoming{7, sell, 8, 1, false}, api.ErrOver)
}

// P10.5: each order can be taken out, which releases what it needs for what is left, and nothing else changes.
func TestCancel(t *testing.T) {
	for _, l := range rights() {
		orders := ordersOf(l)
		for i, o := range orders {
			after := copied(l)
			after.Book = booked(l.Book.Next, slices.Delete(slices.Clone(orders), i, i+1)...)
			p, n := purse(o.Owner, l.Base), o.Left
			if o.Side == buy {
				p, n = purse(o.Owner, l.Quote), o.Left*o.Price
			}
			for _, free := range [][]api.Holding{nil, rich(), list(hold(o.Owner, l.Base, 3)), list(hold(o.Owner, l.Quote, most-n))} {
				given, err := account.Give(free, p, n)
				if err != api.OK {
					// The account has all that may be of asset 7 already.
					wantCancel(t, state{l, free}, o.Owner, o.Id, state{l, free}, 0, err)
					continue
				}
				wantCancel(t, state{l, free}, o.Owner, o.Id, state{after, given}, n, api.OK)
			}
		}
	}
}

// P10.5: an order of which a part was traded releases what it needs for the rest.
func TestCancelPart(t *testing.T) {
	s := state{laned(1, nil), list(hold(1, 2, 100), hold(2, 1, 9))}
	s = wantPlaced(t, s, incoming{1, buy, 10, 9, true}, state{laned(2, nil, order(1, 1, buy, 10, 9)), list(hold(1, 2, 10), hold(2, 1, 9))}, 1)
	s = wantPlaced(t, s, incoming{2, sell, 6, 4, true}, state{laned(2, list(hold(1, 1, 4)), order(1, 1, buy, 10, 5)), list(hold(1, 2, 10), hold(2, 1, 5), hold(2, 2, 40))}, 0, fill(1, 1, 10, 4, false))
	wantCancel(t, s, 1, 1, state{laned(2, list(hold(1, 1, 4))), list(hold(1, 2, 60), hold(2, 1, 5), hold(2, 2, 40))}, 50, api.OK)
}

// P10.5: the errors, in their order, with all as it was.
func TestCancelErrors(t *testing.T) {
	full := list(hold(3, 2, most), hold(7, 1, most))
	for _, l := range wrongs() {
		for _, o := range append(ordersOf(l), order(77, 1, buy, 1, 1)) {
			wantCancel(t, state{l, nil}, o.Owner, o.Id, state{l, nil}, 0, api.ErrArg)
			wantCancel(t, state{l, rich()}, o.Owner+1, o.Id, state{l, rich()}, 0, api.ErrArg)
		}
	}
	for _, free := range wrongHoldings() {
		for _, id := range []int{9, 8, 77} {
			wantCancel(t, state{plain(), free}, 3, id, state{plain(), free}, 0, api.ErrArg)
		}
	}
	for _, free := range [][]api.Holding{nil, rich(), full} {
		s := state{plain(), free}
		for _, n := range append(numbers(), 20) {
			if !slices.ContainsFunc(ordersOf(s.lane), func(o api.Order) bool { return o.Id == n }) {
				wantCancel(t, s, 3, n, s, 0, api.ErrNone)
				wantCancel(t, s, n, 77, s, 0, api.ErrNone)
			}
			if n != 3 {
				wantCancel(t, s, n, 9, s, 0, api.ErrOther)
			}
			if n != 7 {
				wantCancel(t, s, n, 8, s, 0, api.ErrOther)
			}
		}
	}
	wantCancel(t, state{plain(), full}, 3, 9, state{plain(), full}, 0, api.ErrOver)
	wantCancel(t, state{plain(), full}, 7, 8, state{plain(), full}, 0, api.ErrOver)
	near := list(hold(3, 2, most-35), hold(7, 1, most-3))
	wantCancel(t, state{plain(), near}, 3, 9, state{plain(), near}, 0, api.ErrOver)
	wantCancel(t, state{plain(), near}, 7, 8, state{plain(), near}, 0, api.ErrOver)
}

// P10.5: just as much as there is room for.
func TestCancelRoom(t *testing.T) {
	free := list(hold(3, 2, most-36), hold(7, 1, most-4))
	orders := ordersOf(plain())
	without := func(id int) api.Lane {
		return laned(20, plain().Owed, slices.DeleteFunc(slices.Clone(orders), func(o api.Order) bool { return o.Id == id })...)
	}
	wantCancel(t, state{plain(), free}, 3, 9, state{without(9), list(hold(3, 2, most), hold(7, 1, most-4))}, 36, api.OK)
	wantCancel(t, state{plain(), free}, 7, 8, state{without(8), list(hold(3, 2, most-36), hold(7, 1, most))}, 4, api.OK)
}

// P10.6: all that is owed to an owner is moved, and what is owed to others stays.
func TestCollect(t *testing.T) {
	after := func(owed ...api.Holding) api.Lane {
		l := plain()
		l.Owed = owed
		return l
	}
	h := plain().Owed
	wantCollect(t, state{plain(), nil}, 3, state{after(h[2:]...), list(hold(3, 1, 6), hold(3, 2, 80))}, 6, 80, api.OK)
	wantCollect(t, state{plain(), nil}, 4, state{after(h[0], h[1], h[3], h[4]), list(hold(4, 2, 11))}, 0, 11, api.OK)
	wantCollect(t, state{plain(), nil}, 7, state{after(h[0], h[1], h[2], h[4]), list(hold(7, 1, 5))}, 5, 0, api.OK)
	wantCollect(t, state{plain(), nil}, 63, state{after(h[:4]...), list(hold(63, 2, most))}, 0, most, api.OK)
	free := list(hold(3, 0, 1), hold(3, 1, 2), hold(3, 2, 3), hold(3, 3, 4), hold(4, 1, 9))
	wantCollect(t, state{plain(), free}, 3, state{after(h[2:]...), list(hold(3, 0, 1), hold(3, 1, 8), hold(3, 2, 83), hold(3, 3, 4), hold(4, 1, 9))}, 6, 80, api.OK)
	l := api.Lane{Base: 5, Quote: 0, Book: api.Book{Next: 1}, Owed: list(hold(9, 0, 7), hold(9, 5, 8))}
	wantCollect(t, state{l, nil}, 9, state{api.Lane{Base: 5, Quote: 0, Book: api.Book{Next: 1}}, list(hold(9, 0, 7), hold(9, 5, 8))}, 8, 7, api.OK)
}

// P10.6: the errors, in their order, with all as it was.
func TestCollectErrors(t *testing.T) {
	for _, l := range wrongs() {
		for _, owner := range []int{-1, 0, 1, 3, 64} {
			wantCollect(t, state{l, nil}, owner, state{l, nil}, 0, 0, api.ErrArg)
			wantCollect(t, state{l, rich()}, owner, state{l, rich()}, 0, 0, api.ErrArg)
		}
	}
	for _, free := range wrongHoldings() {
		wantCollect(t, state{plain(), free}, 3, state{plain(), free}, 0, 0, api.ErrArg)
		wantCollect(t, state{plain(), free}, 5, state{plain(), free}, 0, 0, api.ErrArg)
	}
	full := list(hold(3, 1, most), hold(3, 2, most), hold(5, 1, most), hold(5, 2, most))
	for _, free := range [][]api.Holding{nil, rich(), full} {
		s := state{plain(), free}
		for _, n := range numbers() {
			if n != 3 && n != 7 && n != 63 {
				wantCollect(t, s, n, s, 0, 0, api.ErrNothing)
			}
			wantCollect(t, state{laned(9, nil, order(1, 3, sell, 5, 1)), free}, n, state{laned(9, nil, order(1, 3, sell, 5, 1)), free}, 0, 0, api.ErrNothing)
		}
	}
	for _, free := range [][]api.Holding{full, list(hold(3, 1, most)), list(hold(3, 2, most)), list(hold(3, 1, most-5)), list(hold(3, 2, most-79)), list(hold(3, 1, most-6), hold(3, 2, most-79)), list(hold(3, 1, most-5), hold(3, 2, most-80))} {
		wantCollect(t, state{plain(), free}, 3, state{plain(), free}, 0, 0, api.ErrOver)
	}
	after := plain()
	after.Owed = after.Owed[2:]
	wantCollect(t, state{plain(), list(hold(3, 1, most-6), hold(3, 2, most-80))}, 3, state{after, list(hold(3, 1, most), hold(3, 2, most))}, 6, 80, api.OK)
}

// mixed are count numbers from 0 to below, the same ones at each call.
func mixed(count, below int) []int {
	l := make([]int, count)
	u := uint64(count)*2654435769 + uint64(below)
	for i := range l {
		u = u*6364136223846793005 + 1442695040888963407
		l[i] = int(u>>33) % below
	}
	return l
}

// table is how much each account has of each asset.
type table [accounts][assets]int

// holdings is what is in the table, in order.
func (t table) holdings() []api.Holding {
	l := []api.Holding{}
	for id, purses := range t {
		for asset, n := range purses {
			if n > 0 {
				l = append(l, hold(id, asset, n))
			}
		}
	}
	return l
}

// model is another lane, with what is free beside it: all orders in the order of their arrival, of which the best one is searched for each time, and tables in which amounts are moved unit by unit of what was traded.
type model struct {
	base, quote, next int
	orders            []api.Order
	free, owed        table
}

func (m model) state() state {
	return state{api.Lane{Base: m.base, Quote: m.quote, Book: booked(m.next, m.orders...), Owed: m.owed.holdings()}, m.free.holdings()}
}

// best tells where the best order is that o meets, or -1.
func (m model) best(o incoming) int {
	best := -1
	for i, r := range m.orders {
		if r.Side == o.side || o.side == buy && r.Price > o.price || o.side == sell && r.Price < o.price {
			continue
		}
		if best < 0 || o.side == buy && r.Price < m.orders[best].Price || o.side == sell && r.Price > m.orders[best].Price {
			best = i
		}
	}
	return best
}

// trade moves what is paid for the fill, and tells whether too much is owed then. What is free may be beyond what may be, above or below.
func (m *model) trade(o incoming, f api.Fill) bool {
	if o.side == buy {
		m.free[o.owner][m.quote] -= f.Price * f.Qty
		m.owed[f.Owner][m.quote] += f.Price * f.Qty
		m.free[o.owner][m.base] += f.Qty
	} else {
		m.free[o.owner][m.base] -= f.Qty
		m.owed[f.Owner][m.base] += f.Qty
		m.free[o.owner][m.quote] += f.Price * f.Qty
	}
	return m.owed[f.Owner][m.base] > most || m.owed[f.Owner][m.quote] > most
}

// place tells what Place should answer, and the model behind it.
func (m model) place(o incoming) (model, result) {
	after, r, left, over := m, result{}, o.qty, false
	after.orders = slices.Clone(m.orders)
	for at := after.best(o); left > 0 && at >= 0; at = after.best(o) {
		rests := &after.orders[at]
		if rests.Owner == o.owner {
			return m, result{state: m.state(), err: api.ErrSelf}
		}
		f := fill(rests.Id, rests.Owner, rests.Price, min(left, rests.Left), left >= rests.Left)
		rests.Left -= f.Qty
		left -= f.Qty
		if f.Done {
			after.orders = slices.Delete(after.orders, at, at+1)
		}
		r.fills = append(r.fills, f)
		over = after.trade(o, f) || over
	}
	if o.rest && left > 0 {
		if len(after.orders) >= maxOrders {
			return m, result{state: m.state(), err: api.ErrFull}
		}
		r.id = after.next
		after.orders = append(after.orders, order(r.id, o.owner, o.side, o.price, left))
		after.next++
		after.free[o.owner][after.pays(o.side)] -= left * map[int]int{buy: o.price, sell: 1}[o.side]
	}
	own := after.free[o.owner]
	switch {
	case over:
		return m, result{state: m.state(), err: api.ErrOver}
	case own[after.pays(o.side)] < 0:
		return m, result{state: m.state(), err: api.ErrFunds}
	case own[m.base] > most || own[m.quote] > most:
		return m, result{state: m.state(), err: api.ErrOver}
	}
	r.state = after.state()
	return after, r
}

// pays tells the asset that a side pays by.
func (m model) pays(side int) int {
	return map[int]int{buy: m.quote, sell: m.base}[side]
}

// sums tells what is free, reserved and owed of each asset.
func (m model) sums() [assets]int {
	sums := [assets]int{}
	for id := range accounts {
		for asset := range assets {
			sums[asset] += m.free[id][asset] + m.owed[id][asset]
		}
	}
	for _, o := range m.orders {
		sums[m.pays(o.Side)] += o.Left * map[int]int{buy: o.Price, sell: 1}[o.Side]
	}
	return sums
}

// cancel holds a cancel of the order at that place against the model, and tells the model behind it.
func (m model) cancel(t *testing.T, s state, owner, at int) (model, api.Errno) {
	t.Helper()
	o := m.orders[at]
	if o.Owner != owner {
		wantCancel(t, s, owner, o.Id, s, 0, api.ErrOther)
		return m, api.ErrOther
	}
	after, n := m, o.Left*map[int]int{buy: o.Price, sell: 1}[o.Side]
	after.orders = slices.Delete(slices.Clone(m.orders), at, at+1)
	after.free[owner][m.pays(o.Side)] += n
	if after.free[owner][m.pays(o.Side)] > most {
		wantCancel(t, s, owner, o.Id, s, 0, api.ErrOver)
		return m, api.ErrOver
	}
	wantCancel(t, s, owner, o.Id, after.state(), n, api.OK)
	return after, api.OK
}

// collect holds a collect of the owner against the model, and tells the model behind it.
func (m model) collect(t *testing.T, s state, owner int) (model, api.Errno) {
	t.Helper()
	after, base, quote := m, m.owed[owner][m.base], m.owed[owner][m.quote]
	if base == 0 && quote == 0 {
		wantCollect(t, s, owner, s, 0, 0, api.ErrNothing)
		return m, api.ErrNothing
	}
	after.free[owner][m.base] += base
	after.free[owner][m.quote] += quote
	after.owed[owner] = [assets]int{}
	if after.free[owner][m.base] > most || after.free[owner][m.quote] > most {
		wantCollect(t, s, owner, s, 0, 0, api.ErrOver)
		return m, api.ErrOver
	}
	wantCollect(t, s, owner, after.state(), base, quote, api.OK)
	return after, api.OK
}

// wantKept wants what P10.7 says: the sums of all assets as they were told.
func wantKept(t *testing.T, s state, sums [assets]int) {
	t.Helper()
	wantRight(t, s.lane, true)
	for asset, want := range sums {
		got := account.Total(s.free, asset) + lane.Reserved(s.lane, asset) + lane.Owed(s.lane, asset)
		if got != want {
			t.Errorf("%d of asset %d in %v, want %d", got, asset, s, want)
		}
	}
}

// wantOthers wants what P10.9 says: no free holdings but those of the owner who calls have changed, and these of Base and Quote alone.
func wantOthers(t *testing.T, before, after state, owner int) {
	t.Helper()
	others := func(s state) []api.Holding {
		return slices.DeleteFunc(slices.Clone(s.free), func(h api.Holding) bool {
			return h.Purse.Account == owner && (h.Purse.Asset == s.lane.Base || h.Purse.Asset == s.lane.Quote)
		})
	}
	if !slices.Equal(others(before), others(after)) {
		t.Errorf("%d has called with %v: %v", owner, before, after)
	}
}

// tally counts how often each error came from each call.
type tally map[[2]int]int

const (
	placing    = 1
	cancelling = 2
	collecting = 3
)

// stocked is a model of these assets in which so many accounts have each a free amount of each asset, and are owed another.
func stocked(base, quote, owners int, free, owed func(id, asset int) int) model {
	m := model{base: base, quote: quote, next: 1}
	for id := range owners {
		for asset := range assets {
			m.free[id][asset] = free(id, asset)
		}
		m.owed[id][base], m.owed[id][quote] = owed(id, base), owed(id, quote)
	}
	return m
}

// run holds many steps against the model: orders of so many owners, of prices up to prices and quantities up to qtys, of which apart in ten keep away from the other side, so that many rest. If fills is set, a purse is filled up from time to time.
func run(t *testing.T, m model, owners, prices, qtys, apart int, fills bool, met tally) {
	s := m.state()
	for p := range slices.Chunk(mixed(6*250, 1<<30-owners-prices-apart-m.base), 6) {
		if fills && p[0]%7 == 0 {
			m.free[p[1]%owners][m.pays(1+p[3]%2)] = most - p[4]%3
			s = m.state()
		}
		sums, owner, call, err, before := m.sums(), p[2]%owners, placing, api.OK, s
		if p[0]%6 == 0 && len(m.orders) > 0 {
			at := p[1] % len(m.orders)
			if p[3]%3 > 0 {
				owner = m.orders[at].Owner
			}
			call = cancelling
			id := m.orders[at].Id
			m, err = m.cancel(t, s, owner, at)
			s.lane, s.free, _, _ = lane.Cancel(s.lane, s.free, owner, id)
		} else if p[0]%6 == 1 {
			call = collecting
			m, err = m.collect(t, s, owner)
			s.lane, s.free, _, _, _ = lane.Collect(s.lane, s.free, owner)
		} else {
			o := incoming{owner, 1 + p[1]%2, 1 + p[3]%prices, 1 + p[4]%qtys, p[5]%4 > 0}
			if p[5]%10 < apart {
				o.price = 1 + (p[3]%prices+(o.side-1)*prices)/2
			}
			after, want := m.place(o)
			wantPlace(t, s, o, want)
			m, err = after, want.err
			s = place(s, o).state
		}
		met[[2]int{call, int(err)}]++
		wantKept(t, s, sums)
		wantOthers(t, before, s, owner)
		if t.Failed() {
			t.FailNow()
		}
	}
}

// P10.4 to P10.9: many calls, held against a lane of another sort, with much free, with little, and with all but too much.
func TestMany(t *testing.T) {
	met := tally{}
	none := func(id, asset int) int { return 0 }
	little := func(id, asset int) int { return 30 * (id + asset) }
	much := func(id, asset int) int { return 1 << 45 }
	near := func(id, asset int) int { return most - 20*id }
	for i, apart := range []int{0, 9} {
		for _, owners := range []int{3, 7, 64} {
			base, quote := (owners+i)%assets, (owners+3*i+1)%assets
			run(t, stocked(base, quote, owners, little, none), owners, 12, 9, apart, false, met)
			run(t, stocked(base, quote, owners, much, none), owners, 40, 9, apart, false, met)
			run(t, stocked(quote, base, owners, much, little), owners, maxPrice, maxPrice, apart, false, met)
			run(t, stocked(base, quote, owners, near, near), owners, 12, 9, apart, true, met)
			run(t, stocked(quote, base, owners, near, little), owners, 12, 9, apart, true, met)
		}
	}
	// A run that seldom comes to one of them would hold nothing of it.
	for call, errs := range [][]api.Errno{placing: {api.OK, api.ErrSelf, api.ErrFull, api.ErrFunds, api.ErrOver}, cancelling: {api.OK, api.ErrOther, api.ErrOver}, collecting: {api.OK, api.ErrNothing, api.ErrOver}} {
		for _, err := range errs {
			if met[[2]int{call, int(err)}] < 10 {
				t.Errorf("error %d came %d times of call %d", err, met[[2]int{call, int(err)}], call)
			}
		}
	}
}

// P10.7, P10.8: placed and taken out again, an order leaves all as it was, but for the next Id.
func TestPlacedAndCancelled(t *testing.T) {
	for _, side := range []int{buy, sell} {
		for _, qty := range []int{1, 7, 1 << 20} {
			s := state{plain(), rich()}
			r := place(s, incoming{44, side, 11, qty, true})
			if r.err != api.OK || r.id != 20 {
				t.Fatalf("Place = %v", r)
			}
			want := s.copy()
			want.lane.Book.Next++
			wantCancel(t, r.state, 44, 20, want, qty*map[int]int{buy: 11, sell: 1}[side], api.OK)
		}
	}
}

// spare is what lies behind the end of lists.
func spare() (api.Order, api.Holding) {
	return order(555, 55, 5, 55, 5), hold(55, 5, 55)
}

// roomy is s with room behind the end of each list, in which other things lie.
func roomy(s state) state {
	o, h := spare()
	levels := func(l []api.Level) []api.Level {
		room := []api.Level{}
		for _, v := range l {
			orders := append(slices.Clone(v.Orders), o, o, o)
			room = append(room, api.Level{Price: v.Price, Orders: orders[:len(v.Orders)]})
		}
		behind := api.Level{Price: 55, Orders: []api.Order{o}}
		return append(room, behind, behind)[:len(l)]
	}
	holdings := func(l []api.Holding) []api.Holding {
		return append(slices.Clone(l), h, h, h)[:len(l)]
	}
	b := api.Book{Buys: levels(s.lane.Book.Buys), Sells: levels(s.lane.Book.Sells), Next: s.lane.Book.Next}
	return state{api.Lane{Base: s.lane.Base, Quote: s.lane.Quote, Book: b, Owed: holdings(s.lane.Owed)}, holdings(s.free)}
}

// behind is s with what lies behind the end of each list too.
func behind(s state) state {
	levels := func(l []api.Level) []api.Level {
		all := slices.Clone(l[:len(l)+2])
		for i, v := range l {
			all[i].Orders = v.Orders[:len(v.Orders)+3]
		}
		return all
	}
	all := s
	all.lane.Book.Buys, all.lane.Book.Sells = levels(s.lane.Book.Buys), levels(s.lane.Book.Sells)
	all.lane.Owed, all.free = s.lane.Owed[:len(s.lane.Owed)+3], s.free[:len(s.free)+3]
	return all
}

// wantRoomy wants s to be what roomy made of old.
func wantRoomy(t *testing.T, s, old state) {
	t.Helper()
	if !s.same(old) || !behind(s).same(behind(roomy(old))) {
		t.Fatalf("%v is there, want %v", behind(s), behind(roomy(old)))
	}
}

// some are orders that trade with few and with many, that rest and that can't.
func some() []incoming {
	l := []incoming{}
	for _, side := range []int{buy, sell} {
		for _, price := range []int{1, 9, 11, 12, 50, 60, maxPrice} {
			for _, qty := range []int{1, 5, 1000} {
				l = append(l, incoming{40, side, price, qty, true}, incoming{40, side, price, qty, false}, incoming{1, side, price, qty, true}, incoming{63, side, price, qty, false})
			}
		}
	}
	return l
}

// visit calls each function with s in many ways, and hands over what it answers without an error.
func visit(s state, got func(state)) {
	for _, o := range some() {
		if r := place(s, o); r.err == api.OK {
			got(r.state)
		}
	}
	for _, o := range append(ordersOf(s.lane), order(999, 1, buy, 1, 1)) {
		for _, owner := range []int{o.Owner, o.Owner + 1} {
			if l, free, _, err := lane.Cancel(s.lane, s.free, owner, o.Id); err == api.OK {
				got(state{l, free})
			}
		}
	}
	for _, owner := range []int{0, 1, 3, 4, 7, 63, 64} {
		if l, free, _, _, err := lane.Collect(s.lane, s.free, owner); err == api.OK {
			got(state{l, free})
		}
	}
	for asset := range assets {
		lane.Reserved(s.lane, asset)
		lane.Owed(s.lane, asset)
	}
	lane.Right(s.lane)
}

// R3, P10.8: neither what is handed in nor what is behind the end of its lists is changed.
func TestUnchanged(t *testing.T) {
	for _, l := range append(rights(), wrongs()...) {
		for _, free := range append(wrongHoldings()[:2], nil, rich()) {
			old := state{l, free}
			s := roomy(old)
			visit(s, func(state) {})
			wantRoomy(t, s, old)
		}
	}
}

// scribble writes over all of s, one list after the other, and wants the other ones to stay as they were.
func scribble(t *testing.T, s state) {
	t.Helper()
	o, h := spare()
	want := s.copy()
	for side, l := range [][]api.Level{s.lane.Book.Buys, s.lane.Book.Sells} {
		wants := [][]api.Level{want.lane.Book.Buys, want.lane.Book.Sells}[side]
		for i := range l {
			orders := l[i].Orders[:cap(l[i].Orders)]
			for j := range orders {
				orders[j] = o
			}
			for j := range wants[i].Orders {
				wants[i].Orders[j] = o
			}
			if !s.same(want) {
				t.Fatalf("%v is there, want %v", s, want)
			}
		}
		for i := range l[:cap(l)] {
			l[:cap(l)][i] = api.Level{Price: 66}
		}
		for i := range wants {
			wants[i] = api.Level{Price: 66}
		}
		if !s.same(want) {
			t.Fatalf("%v is there, want %v", s, want)
		}
	}
	for i, l := range [][]api.Holding{s.lane.Owed, s.free} {
		wants := [][]api.Holding{want.lane.Owed, want.free}[i]
		for j := range l[:cap(l)] {
			l[:cap(l)][j] = h
		}
		for j := range wants {
			wants[j] = h
		}
		if !s.same(want) {
			t.Fatalf("%v is there, want %v", s, want)
		}
	}
}

// R3: what is told shares nothing with what was handed in, nor do two lists of it.
func TestOwnMemory(t *testing.T) {
	for _, l := range rights() {
		old := state{l, rich()}
		s := roomy(old)
		visit(s, func(got state) {
			scribble(t, got)
			wantRoomy(t, s, old)
		})
	}
	// One list that is handed in twice, as what is owed and as what is free.
	both := list(hold(1, 1, 9), hold(1, 2, 900), hold(40, 1, 9), hold(40, 2, 900))
	s := state{laned(3, both, order(1, 1, buy, 9, 4), order(2, 3, sell, 12, 4)), both}
	visit(s, func(got state) { scribble(t, got) })
}

// R3: what was told stays so when it is put to use again.
func TestKept(t *testing.T) {
	s := state{plain(), rich()}
	first := place(s, incoming{40, buy, 14, 7, true})
	want, wantFills := first.copy(), slices.Clone(first.fills)
	visit(s, func(state) {})
	visit(first.state, func(state) {})
	if !first.same(want) || !slices.Equal(first.fills, wantFills) {
		t.Errorf("%v, want %v", first, want)
	}
	made, _ := lane.New(3, 4)
	place(state{made, list(hold(1, 4, 9))}, incoming{1, buy, 1, 1, true})
	if again, _ := lane.New(3, 4); !same(again, made) || !same(made, api.Lane{Base: 3, Quote: 4, Book: api.Book{Next: 1}}) {
		t.Errorf("New(3, 4) = %v", again)
	}
}

// R4: the same answer each time.
func TestAgain(t *testing.T) {
	s, o := state{plain(), rich()}, incoming{40, buy, 14, 11, true}
	want := place(s, o)
	cancelled, collected := s, s
	cancelled.lane, cancelled.free, _, _ = lane.Cancel(s.lane, s.free, 7, 8)
	collected.lane, collected.free, _, _, _ = lane.Collect(s.lane, s.free, 3)
	for range 20 {
		wantPlace(t, s, o, want)
		wantCancel(t, s, 7, 8, cancelled, 4, api.OK)
		wantCollect(t, s, 3, collected, 6, 80, api.OK)
	}
}

// R1: no call panics, whatever it is given.
func TestNoPanic(t *testing.T) {
	for _, l := range append(rights(), wrongs()...) {
		for _, n := range numbers() {
			for _, m := range numbers() {
				lane.Place(l, nil, n, m, n, m, true)
				lane.Place(l, list(hold(1, 2, most)), 1, buy, n, m, m%2 == 0)
				lane.Place(l, list(hold(n, 1, m)), n, sell, m, 1, n%2 == 0)
				lane.Cancel(l, list(hold(n, m, 1)), n, m)
			}
			lane.Collect(l, list(hold(n, 1, 1)), n)
			lane.Reserved(l, n)
			lane.Owed(l, n)
			changed := copied(l)
			changed.Base = n
			visit(state{changed, nil}, func(state) {})
			changed = copied(l)
			changed.Owed = append(changed.Owed, hold(n, 1, n), hold(n, n, 1))
			lane.Right(changed)
			lane.Owed(changed, 1)
			lane.Collect(changed, nil, n)
		}
	}
}

// R1: a call ends soon for very many orders and holdings too, which aren't valid.
func TestVeryMany(t *testing.T) {
	l, free := api.Lane{Base: 1, Quote: 2, Book: api.Book{Next: maxId}}, []api.Holding{}
	for id := 1; id <= 200000; id++ {
		l.Book.Sells = append(l.Book.Sells, api.Level{Price: 1 + id, Orders: []api.Order{order(id, 1, sell, 1+id, 1)}})
		free = append(free, hold(id, 1, 1))
	}
	wantRight(t, l, false)
	wantReserved(t, l, 1, 0)
	if r := place(state{l, nil}, incoming{2, buy, 9, 9, true}); r.err != api.ErrArg || len(r.fills) != 0 {
		t.Errorf("Place: %d", r.err)
	}
	if _, _, n, err := lane.Cancel(plain(), free, 3, 9); n != 0 || err != api.ErrArg {
		t.Errorf("Cancel: %d, %d", n, err)
	}
	if _, _, n, m, err := lane.Collect(l, free, 3); n != 0 || m != 0 || err != api.ErrArg {
		t.Errorf("Collect: %d, %d, %d", n, m, err)
	}
}
