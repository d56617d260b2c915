package book_test

import (
	"math"
	"slices"
	"testing"

	"cambist/api"
	"cambist/book"
	"cambist/level"
)

// The limits, by the chapter's own figures and those of the list of limits.
const (
	maxPrice  = 1048576
	maxId     = 1073741824
	accounts  = 64
	maxOrders = 40
	buy, sell = 1, 2
)

// numbers are ints of all sorts: the least and the greatest ones, and those about each limit.
func numbers() []int {
	return []int{math.MinInt, math.MinInt + 1, math.MinInt32, -maxPrice, -64, -2, -1, 0, 1, 2, 3, 5, 9, 10, 11, 39, 40, 41, 63, 64, 65, 255, maxPrice - 1, maxPrice, maxPrice + 1, 2 * maxPrice, maxId - 1, maxId, maxId + 1, 1 << 40, math.MaxInt - 1, math.MaxInt}
}

func order(id, owner, side, price, left int) api.Order {
	return api.Order{Id: id, Owner: owner, Side: side, Price: price, Left: left}
}

func fill(id, owner, price, qty int, done bool) api.Fill {
	return api.Fill{Order: id, Owner: owner, Price: price, Qty: qty, Done: done}
}

// sortedSide is the orders of one side, which are told in the order of their arrival, as levels.
func sortedSide(side int, arrived []api.Order) []api.Level {
	l := []api.Level{}
	for _, o := range arrived {
		if o.Side != side {
			continue
		}
		i := 0
		for i < len(l) && (side == buy && l[i].Price > o.Price || side == sell && l[i].Price < o.Price) {
			i++
		}
		if i == len(l) || l[i].Price != o.Price {
			l = slices.Insert(l, i, api.Level{Price: o.Price})
		}
		l[i].Orders = append(l[i].Orders, o)
	}
	return l
}

// booked is the book of orders that are told in the order of their arrival.
func booked(next int, arrived ...api.Order) api.Book {
	return api.Book{Buys: sortedSide(buy, arrived), Sells: sortedSide(sell, arrived), Next: next}
}

// crowd is count orders of side from Id first on, all of owner, at price and the ones that are further and further from the other side's.
func crowd(count, first, owner, side, price, left int) []api.Order {
	l := []api.Order{}
	for i := range count {
		at := price + i/2
		if side == buy {
			at = price - i/2
		}
		l = append(l, order(first+i, owner, side, at, left))
	}
	return l
}

// buyers and sellers are orders that don't meet, in the order of their arrival, in which neither their Ids nor their prices are.
func buyers() []api.Order {
	return []api.Order{order(9, 1, buy, 9, 4), order(3, 2, buy, 10, 5), order(7, 3, buy, 7, 1), order(4, 4, buy, 10, 6), order(11, 5, buy, 2, 9)}
}

func sellers() []api.Order {
	return []api.Order{order(8, 6, sell, 12, 4), order(2, 7, sell, 14, 5), order(13, 8, sell, 12, 1), order(5, 9, sell, 15, 2), order(6, 10, sell, 14, 3)}
}

// plain is a book of them.
func plain() api.Book {
	return booked(20, append(buyers(), sellers()...)...)
}

// full is a book of 40 orders: as many buyers, of account 1, at 50 and less, and else sellers, of account 2, at 60 and more.
func full(buyers int) api.Book {
	return booked(1000, append(crowd(buyers, 100, 1, buy, 50, 3), crowd(maxOrders-buyers, 200, 2, sell, 60, 3)...)...)
}

// rights are valid books of all sorts.
func rights() []api.Book {
	return []api.Book{
		{Next: 1},
		{Next: maxId},
		{Next: 5, Buys: []api.Level{}, Sells: []api.Level{}},
		booked(2, order(1, 0, buy, 1, 1)),
		booked(2, order(1, 63, sell, maxPrice, maxPrice)),
		booked(maxId, order(maxId-1, 63, buy, maxPrice, maxPrice)),
		booked(maxId, order(maxId-1, 0, sell, 1, 1)),
		booked(3, order(1, 0, buy, 9, 1), order(2, 0, sell, 10, 1)),
		booked(3, order(1, 0, sell, maxPrice, 1), order(2, 0, buy, maxPrice-1, 1)),
		booked(3, order(2, 0, sell, 2, 1), order(1, 0, buy, 1, 1)),
		plain(),
		full(0), full(1), full(20), full(39), full(40),
	}
}

// wrongs are books that are not valid, each for one reason.
func wrongs() []api.Book {
	b, s := order(1, 0, buy, 9, 1), order(2, 0, sell, 10, 1)
	sides := func(buys, sells []api.Level) api.Book {
		return api.Book{Buys: buys, Sells: sells, Next: 9}
	}
	one := func(price int, orders ...api.Order) []api.Level {
		return []api.Level{{Price: price, Orders: orders}}
	}
	return []api.Book{
		{}, {Next: -1}, {Next: math.MinInt}, {Next: maxId + 1}, {Next: math.MaxInt},
		booked(0, b, s), booked(maxId+1, b, s),
		booked(1, b), booked(2, s), booked(2, b, s), booked(1, b, s), booked(2, order(2, 0, buy, 9, 1), order(1, 0, sell, 10, 1)),
		booked(9, order(9, 0, buy, 9, 1)), booked(9, order(10, 0, sell, 9, 1)), booked(9, b, s, order(9, 0, buy, 3, 1)), booked(9, b, s, order(9, 0, sell, 30, 1)),
		booked(9, b, order(1, 0, buy, 8, 1)), booked(9, b, order(1, 0, buy, 9, 1)), booked(9, s, order(2, 0, sell, 12, 1)),
		booked(9, b, order(1, 0, sell, 10, 1)), booked(9, b, s, order(2, 5, buy, 7, 3)), booked(9, b, s, order(1, 5, sell, 70, 3)),
		booked(9, order(1, 0, buy, 10, 1), s), booked(9, order(1, 0, buy, 11, 1), s), booked(9, b, s, order(3, 0, buy, 10, 1)), booked(9, b, s, order(3, 0, sell, 9, 1)),
		booked(9, order(1, 0, buy, maxPrice, 1), order(2, 0, sell, maxPrice, 1)), booked(9, order(1, 0, buy, 1, 1), order(2, 0, sell, 1, 1)),
		booked(1000, crowd(41, 100, 1, buy, 50, 3)...), booked(1000, crowd(41, 100, 1, sell, 50, 3)...),
		booked(1000, append(crowd(20, 100, 1, buy, 50, 3), crowd(21, 200, 2, sell, 60, 3)...)...),
		booked(1000, append(crowd(21, 100, 1, buy, 50, 3), crowd(20, 200, 2, sell, 60, 3)...)...),
		booked(1000, append(crowd(40, 100, 1, buy, 50, 3), crowd(40, 200, 2, sell, 60, 3)...)...),
		sides(one(10, s), nil), sides(nil, one(9, b)), sides(one(10, s), one(9, b)), sides(one(10, s), one(10, s)), sides(one(9, b), one(9, b)),
		sides(one(9), nil), sides(nil, one(9)), sides(one(9, b), one(10)), sides(one(9), one(10, s)), sides(make([]api.Level, 50), nil), sides(nil, make([]api.Level, 50)),
		sides(one(8, b), nil), sides(nil, one(11, s)), sides(append(one(9, b), one(9, order(3, 0, buy, 9, 1))...), nil), sides(nil, append(one(10, s), one(10, order(3, 0, sell, 10, 1))...)),
		sides(append(one(9, b), one(10, order(3, 0, buy, 10, 1))...), nil), sides(nil, append(one(10, s), one(9, order(3, 0, sell, 9, 1))...)),
		booked(9, order(0, 0, buy, 9, 1)), booked(9, order(-1, 0, sell, 9, 1)), booked(9, order(1, 64, buy, 9, 1)), booked(9, order(1, -1, sell, 9, 1)),
		booked(9, order(1, 0, buy, 0, 1)), booked(9, order(1, 0, sell, maxPrice+1, 1)), booked(9, order(1, 0, buy, 9, 0)), booked(9, order(1, 0, sell, 9, maxPrice+1)),
	}
}

// copied is b in memory of its own, level by level.
func copied(b api.Book) api.Book {
	levels := func(l []api.Level) []api.Level {
		own := []api.Level{}
		for _, v := range l {
			own = append(own, api.Level{Price: v.Price, Orders: append([]api.Order{}, v.Orders...)})
		}
		return own
	}
	return api.Book{Buys: levels(b.Buys), Sells: levels(b.Sells), Next: b.Next}
}

// same tells whether a and b hold the same, of which nil and empty lists are alike.
func same(a, b api.Book) bool {
	equal := func(v, w api.Level) bool { return v.Price == w.Price && slices.Equal(v.Orders, w.Orders) }
	return slices.EqualFunc(a.Buys, b.Buys, equal) && slices.EqualFunc(a.Sells, b.Sells, equal) && a.Next == b.Next
}

// mixed are count numbers from 0 to below, the same ones at each call.
func mixed(count, below int) []int {
	l := make([]int, count)
	u := uint64(count)*2654435769 + uint64(below)
	for i := range l {
		u = u*6364136223846793005 + 1442695040888963407
		l[i] = int(u>>33) % below
	}
	return l
}

// incoming is what is handed to Place beside the book.
type incoming struct {
	owner, side, price, qty int
	rest                    bool
}

// result is what Place answers.
type result struct {
	book     api.Book
	fills    []api.Fill
	left, id int
	err      api.Errno
}

func place(b api.Book, o incoming) result {
	r := result{}
	r.book, r.fills, r.left, r.id, r.err = book.Place(b, o.owner, o.side, o.price, o.qty, o.rest)
	return r
}

func wantPlace(t *testing.T, b api.Book, o incoming, want result) {
	t.Helper()
	before := copied(b)
	got := place(b, o)
	if !same(got.book, want.book) || !slices.Equal(got.fills, want.fills) || got.left != want.left || got.id != want.id || got.err != want.err || !same(b, before) {
		t.Errorf("Place(%v, %v) = %v, want %v", before, o, got, want)
	}
}

// wantPlaced wants Place to answer the book after, what is left, the Id of what rests and the fills.
func wantPlaced(t *testing.T, b api.Book, o incoming, after api.Book, left, id int, fills ...api.Fill) {
	t.Helper()
	wantPlace(t, b, o, result{book: after, fills: fills, left: left, id: id})
}

// wantError wants Place to answer the error, the book as it was, and nothing else.
func wantError(t *testing.T, b api.Book, o incoming, err api.Errno) {
	t.Helper()
	wantPlace(t, b, o, result{book: copied(b), err: err})
}

func wantCancel(t *testing.T, b api.Book, owner, id int, want api.Book, wantOrder api.Order, wantErr api.Errno) {
	t.Helper()
	before := copied(b)
	if got, o, err := book.Cancel(b, owner, id); !same(got, want) || o != wantOrder || err != wantErr || !same(b, before) {
		t.Errorf("Cancel(%v, %d, %d) = %v, %v, %d, want %v, %v, %d", before, owner, id, got, o, err, want, wantOrder, wantErr)
	}
}

func wantRight(t *testing.T, b api.Book, want bool) {
	t.Helper()
	if got := book.Right(b); got != want {
		t.Errorf("Right(%v) = %t, want %t", b, got, want)
	}
}

func wantTop(t *testing.T, b api.Book, buyer, seller int) {
	t.Helper()
	if p, q := book.Top(b); p != buyer || q != seller {
		t.Errorf("Top(%v) = %d, %d, want %d, %d", b, p, q, buyer, seller)
	}
}

// P9.2, P9.4: the limits and the sides are the document's.
func TestLimits(t *testing.T) {
	if api.MaxPrice != maxPrice || api.MaxBallot != maxId || api.MaxAccounts != accounts || api.MaxOrders != maxOrders || api.Buy != buy || api.Sell != sell {
		t.Fatalf("MaxPrice is %d, MaxBallot %d, MaxAccounts %d, MaxOrders %d, Buy %d, Sell %d", api.MaxPrice, api.MaxBallot, api.MaxAccounts, api.MaxOrders, api.Buy, api.Sell)
	}
}

// P9.1: a new book has no orders, and its first one will have the Id 1.
func TestNew(t *testing.T) {
	b := book.New()
	if !same(b, api.Book{Next: 1}) {
		t.Errorf("New() = %v", b)
	}
	wantRight(t, b, true)
	wantTop(t, b, 0, 0)
	wantPlaced(t, b, incoming{3, buy, 9, 4, true}, booked(2, order(1, 3, buy, 9, 4)), 4, 1)
}

// P9.2: which books are valid, and which are not.
func TestRight(t *testing.T) {
	for _, b := range rights() {
		wantRight(t, b, true)
	}
	for _, b := range wrongs() {
		wantRight(t, b, false)
	}
}

// P9.2: the next Id has its limits, with orders and without.
func TestRightNext(t *testing.T) {
	for _, n := range append(numbers(), 4, 6, 7, 8, 12, 13, 14, 20) {
		may := n >= 1 && n <= maxId
		wantRight(t, api.Book{Next: n}, may)
		b := plain()
		b.Next = n
		wantRight(t, b, may && n > 13)
		wantRight(t, booked(n, order(5, 1, buy, 3, 1)), may && n > 5)
		wantRight(t, booked(n, order(5, 1, sell, 3, 1)), may && n > 5)
		wantRight(t, booked(n, order(5, 1, buy, 3, 1), order(7, 1, sell, 4, 1)), may && n > 7)
		wantRight(t, booked(n, order(7, 1, buy, 3, 1), order(5, 1, sell, 4, 1)), may && n > 7)
		wantRight(t, booked(maxId, order(n, 1, buy, 3, 1)), n >= 1 && n < maxId)
		wantRight(t, booked(maxId, order(n, 1, sell, 3, 1)), n >= 1 && n < maxId)
	}
}

// P9.2: 40 orders together are the most, however they are spread over the sides.
func TestRightCount(t *testing.T) {
	for buyers := range 45 {
		for sellers := range 45 {
			b := booked(1000, append(crowd(buyers, 100, 1, buy, 50, 3), crowd(sellers, 200, 2, sell, 60, 3)...)...)
			wantRight(t, b, buyers+sellers <= maxOrders)
		}
	}
}

// P9.2: no two orders have the same Id, of one side or of both.
func TestRightIds(t *testing.T) {
	for i := range 10 {
		for j := range 10 {
			orders := append(crowd(5, 100, 1, buy, 50, 3), crowd(5, 200, 2, sell, 60, 3)...)
			orders[i].Id = orders[j].Id
			wantRight(t, booked(300, orders...), i == j)
		}
	}
}

// P9.2: the best buyer pays less than the best seller asks for; other levels have no say.
func TestRightCrossed(t *testing.T) {
	for p := 1; p < 40; p++ {
		for q := 1; q < 40; q++ {
			wantRight(t, booked(9, order(1, 1, buy, p, 1), order(2, 1, sell, q, 1)), p < q)
			wantRight(t, booked(9, order(3, 1, buy, 1, 1), order(1, 1, buy, p, 1), order(2, 1, sell, q, 1), order(4, 1, sell, 50, 1)), p < q)
		}
	}
}

// P9.2: each order may rest on its side.
func TestRightNumbers(t *testing.T) {
	for _, side := range []int{buy, sell} {
		for _, n := range numbers() {
			wantRight(t, booked(9, order(1, n, side, 9, 1)), n >= 0 && n < accounts)
			wantRight(t, booked(9, order(1, 1, side, n, 1)), n >= 1 && n <= maxPrice)
			wantRight(t, booked(9, order(1, 1, side, 9, n)), n >= 1 && n <= maxPrice)
			b := booked(9, order(1, 1, side, 9, 1))
			l := append(b.Buys, b.Sells...)
			l[0].Orders[0].Side = n
			wantRight(t, b, n == side)
		}
	}
}

// P9.3: the chapter's example, and sides without orders.
func TestTop(t *testing.T) {
	b, s, u := order(1, 1, buy, 9, 1), order(2, 1, sell, 10, 1), order(3, 1, sell, 11, 1)
	wantTop(t, booked(4, b, s, u), 9, 10)
	wantTop(t, booked(4, b, u, s), 9, 10)
	wantTop(t, booked(4, b), 9, 0)
	wantTop(t, booked(4, u), 0, 11)
	wantTop(t, booked(4), 0, 0)
	wantTop(t, booked(4, order(4, 1, buy, 3, 1), b, order(5, 1, buy, 8, 1)), 9, 0)
	wantTop(t, plain(), 10, 12)
	wantTop(t, booked(4, order(1, 1, buy, maxPrice-1, 1), order(2, 1, sell, maxPrice, 1)), maxPrice-1, maxPrice)
}

// P9.3: of books that aren't valid the first orders count as well.
func TestTopAnywhere(t *testing.T) {
	wantTop(t, api.Book{}, 0, 0)
	wantTop(t, booked(0, order(1, 1, buy, 12, 1), order(1, 1, sell, 7, 1)), 12, 7)
	gaps := []api.Level{{Price: 5}, {}, {Price: 3, Orders: []api.Order{order(1, 1, sell, 8, 1)}}, {Price: 9, Orders: []api.Order{order(2, 1, buy, 9, 1)}}}
	wantTop(t, api.Book{Buys: gaps}, 8, 0)
	wantTop(t, api.Book{Sells: gaps}, 0, 8)
	wantTop(t, api.Book{Buys: gaps[:2], Sells: gaps[:1]}, 0, 0)
	for _, b := range append(rights(), wrongs()...) {
		buyer, _ := level.Best(b.Buys)
		seller, _ := level.Best(b.Sells)
		wantTop(t, b, buyer.Price, seller.Price)
	}
}

// P9.4, P9.5: the chapter's examples.
func TestExample(t *testing.T) {
	first, second := order(1, 1, sell, 10, 5), order(2, 2, sell, 11, 5)
	wantPlaced(t, book.New(), incoming{1, sell, 10, 5, true}, booked(2, first), 5, 1)
	wantPlaced(t, booked(2, first), incoming{2, sell, 11, 5, true}, booked(3, first, second), 5, 2)
	b := booked(3, first, second)
	after := booked(3, order(2, 2, sell, 11, 3))
	wantPlaced(t, b, incoming{3, buy, 11, 7, true}, after, 0, 0, fill(1, 1, 10, 5, true), fill(2, 2, 11, 2, false))
	wantError(t, b, incoming{1, buy, 10, 1, true}, api.ErrSelf)
	wantPlaced(t, b, incoming{3, buy, 9, 3, true}, booked(4, first, second, order(3, 3, buy, 9, 3)), 3, 3)
	wantCancel(t, after, 2, 2, booked(3), order(2, 2, sell, 11, 3), api.OK)
	wantCancel(t, after, 1, 2, after, api.Order{}, api.ErrOther)
	wantCancel(t, after, 1, 1, after, api.Order{}, api.ErrNone)
}

// P9.4: a book that isn't valid comes back as it was.
func TestPlaceWrongBook(t *testing.T) {
	for _, b := range wrongs() {
		for _, side := range []int{buy, sell, 0} {
			for _, price := range []int{1, 9, 10, 55, maxPrice} {
				wantError(t, b, incoming{5, side, price, 3, true}, api.ErrArg)
				wantError(t, b, incoming{5, side, price, 3, false}, api.ErrArg)
			}
		}
	}
}

// P9.4: each number of the order has its limits, whatever the book is and whether the order may rest.
func TestPlaceWrongOrder(t *testing.T) {
	for _, b := range rights() {
		for _, good := range []incoming{{5, buy, 1, 3, false}, {5, sell, maxPrice, 3, false}, {5, buy, maxPrice, 3, true}, {5, sell, 1, 3, true}} {
			for _, n := range numbers() {
				wantMay := func(o incoming, may bool) {
					t.Helper()
					if !may {
						wantError(t, b, o, api.ErrArg)
					} else if r := place(b, o); r.err == api.ErrArg {
						t.Errorf("Place(%v, %v) = %v", b, o, r)
					}
				}
				o := good
				o.owner = n
				wantMay(o, n >= 0 && n < accounts)
				o = good
				o.side = n
				wantMay(o, n == buy || n == sell)
				o = good
				o.price = n
				wantMay(o, n >= 1 && n <= maxPrice)
				o = good
				o.qty = n
				wantMay(o, n >= 1 && n <= maxPrice)
			}
		}
	}
}

// P9.4: the limits' own numbers may be traded and may rest.
func TestPlaceEdges(t *testing.T) {
	wantPlaced(t, book.New(), incoming{0, buy, 1, 1, true}, booked(2, order(1, 0, buy, 1, 1)), 1, 1)
	great := order(1, 63, sell, maxPrice, maxPrice)
	wantPlaced(t, book.New(), incoming{63, sell, maxPrice, maxPrice, true}, booked(2, great), maxPrice, 1)
	wantPlaced(t, booked(2, great), incoming{0, buy, maxPrice, maxPrice, true}, booked(2), 0, 0, fill(1, 63, maxPrice, maxPrice, true))
	wantPlaced(t, booked(2, great), incoming{0, buy, maxPrice, 1, true}, booked(2, order(1, 63, sell, maxPrice, maxPrice-1)), 0, 0, fill(1, 63, maxPrice, 1, false))
	wantPlaced(t, booked(2, great), incoming{0, buy, maxPrice - 1, 1, false}, booked(2, great), 1, 0)
	least := order(1, 0, buy, 1, 1)
	wantPlaced(t, booked(2, least), incoming{63, sell, 1, maxPrice, true}, booked(3, order(2, 63, sell, 1, maxPrice-1)), maxPrice-1, 2, fill(1, 0, 1, 1, true))
}

// P9.4: an order that buys trades at the resting orders' prices, the least first, up to its own price, and the rest of it rests.
func TestPlaceBuys(t *testing.T) {
	b, l := plain(), sellers()
	with := func(next int, orders ...api.Order) api.Book {
		return booked(next, append(buyers(), orders...)...)
	}
	fills := []api.Fill{fill(8, 6, 12, 4, true), fill(13, 8, 12, 1, true), fill(2, 7, 14, 5, true), fill(6, 10, 14, 3, true), fill(5, 9, 15, 2, true)}
	wantPlaced(t, b, incoming{50, buy, 11, 7, true}, with(21, append(sellers(), order(20, 50, buy, 11, 7))...), 7, 20)
	wantPlaced(t, b, incoming{50, buy, 11, 7, false}, b, 7, 0)
	wantPlaced(t, b, incoming{50, buy, 12, 4, true}, with(20, l[1:]...), 0, 0, fills[0])
	wantPlaced(t, b, incoming{50, buy, 12, 5, true}, with(20, l[1], l[3], l[4]), 0, 0, fills[:2]...)
	wantPlaced(t, b, incoming{50, buy, 12, 7, true}, with(21, l[1], l[3], l[4], order(20, 50, buy, 12, 2)), 2, 20, fills[:2]...)
	wantPlaced(t, b, incoming{50, buy, 12, 7, false}, with(20, l[1], l[3], l[4]), 2, 0, fills[:2]...)
	wantPlaced(t, b, incoming{50, buy, 13, 7, false}, with(20, l[1], l[3], l[4]), 2, 0, fills[:2]...)
	wantPlaced(t, b, incoming{50, buy, 14, 11, true}, with(20, l[3], order(6, 10, sell, 14, 2)), 0, 0, fills[0], fills[1], fills[2], fill(6, 10, 14, 1, false))
	wantPlaced(t, b, incoming{50, buy, maxPrice, 15, true}, with(20), 0, 0, fills...)
	wantPlaced(t, b, incoming{50, buy, maxPrice, 16, true}, with(21, order(20, 50, buy, maxPrice, 1)), 1, 20, fills...)
	wantPlaced(t, b, incoming{50, buy, maxPrice, 16, false}, with(20), 1, 0, fills...)
}

// P9.4: so does one that sells, the greatest price first, down to its own one.
func TestPlaceSells(t *testing.T) {
	b, l := plain(), buyers()
	with := func(next int, orders ...api.Order) api.Book {
		return booked(next, append(sellers(), orders...)...)
	}
	fills := []api.Fill{fill(3, 2, 10, 5, true), fill(4, 4, 10, 6, true), fill(9, 1, 9, 4, true), fill(7, 3, 7, 1, true), fill(11, 5, 2, 9, true)}
	wantPlaced(t, b, incoming{50, sell, 11, 7, true}, with(21, append(buyers(), order(20, 50, sell, 11, 7))...), 7, 20)
	wantPlaced(t, b, incoming{50, sell, 11, 7, false}, b, 7, 0)
	wantPlaced(t, b, incoming{50, sell, 10, 7, true}, with(20, l[0], l[2], order(4, 4, buy, 10, 4), l[4]), 0, 0, fills[0], fill(4, 4, 10, 2, false))
	wantPlaced(t, b, incoming{50, sell, 8, 17, true}, with(21, l[2], l[4], order(20, 50, sell, 8, 2)), 2, 20, fills[:3]...)
	wantPlaced(t, b, incoming{50, sell, 8, 17, false}, with(20, l[2], l[4]), 2, 0, fills[:3]...)
	wantPlaced(t, b, incoming{50, sell, 2, 25, true}, with(20), 0, 0, fills...)
	wantPlaced(t, b, incoming{50, sell, 1, 26, true}, with(21, order(20, 50, sell, 1, 1)), 1, 20, fills...)
	wantPlaced(t, b, incoming{50, sell, 1, 100, false}, with(20), 75, 0, fills...)
}

// P9.4: what is left of a resting order stays ahead of those of its price that came later, and of another one's that rests anew.
func TestPlaceKeepsTurn(t *testing.T) {
	for _, side := range []int{buy, sell} {
		b := booked(10, order(5, 1, side, 9, 6), order(2, 2, side, 9, 6), order(7, 3, side, 9, 6))
		for left := 5; left >= 1; left-- {
			after := booked(10, order(5, 1, side, 9, left), order(2, 2, side, 9, 6), order(7, 3, side, 9, 6))
			wantPlaced(t, b, incoming{4, 3 - side, 9, 1, true}, after, 0, 0, fill(5, 1, 9, 1, false))
			b = after
		}
		wantPlaced(t, b, incoming{1, side, 9, 2, true}, booked(11, order(5, 1, side, 9, 1), order(2, 2, side, 9, 6), order(7, 3, side, 9, 6), order(10, 1, side, 9, 2)), 2, 10)
		wantPlaced(t, b, incoming{4, 3 - side, 9, 8, true}, booked(10, order(7, 3, side, 9, 5)), 0, 0, fill(5, 1, 9, 1, true), fill(2, 2, 9, 6, true), fill(7, 3, 9, 1, false))
	}
}

// P9.4: an order doesn't trade with its owner's; one that it would not come to is none of its business.
func TestPlaceSelf(t *testing.T) {
	for _, side := range []int{buy, sell} {
		step := 3 - 2*side // away from the other side: +1 for an order that buys, and -1 for one that sells
		near, own, far := order(1, 1, 3-side, 20, 5), order(2, 7, 3-side, 20, 5), order(3, 7, 3-side, 20+2*step, 5)
		b := booked(9, near, own, far)
		for _, rest := range []bool{false, true} {
			wantError(t, b, incoming{7, side, 20, 6, rest}, api.ErrSelf)
			wantError(t, b, incoming{7, side, 20 + step, maxPrice, rest}, api.ErrSelf)
			wantPlaced(t, b, incoming{7, side, 20, 5, rest}, booked(9, own, far), 0, 0, fill(1, 1, 20, 5, true))
			wantPlaced(t, b, incoming{7, side, 20, 4, rest}, booked(9, order(1, 1, 3-side, 20, 1), own, far), 0, 0, fill(1, 1, 20, 4, false))
			wantPlaced(t, booked(9, near, far), incoming{7, side, 20 + 2*step, 5, rest}, booked(9, far), 0, 0, fill(1, 1, 20, 5, true))
			wantError(t, booked(9, near, far), incoming{7, side, 20 + 2*step, 6, rest}, api.ErrSelf)
			wantError(t, booked(9, own, near), incoming{7, side, 20, 1, rest}, api.ErrSelf)
		}
		wantPlaced(t, b, incoming{7, side, 20 - step, 6, true}, booked(10, near, own, far, order(9, 7, side, 20-step, 6)), 6, 9)
		wantPlaced(t, booked(9, near, far), incoming{7, side, 20 + step, 6, true}, booked(10, far, order(9, 7, side, 20+step, 1)), 1, 9, fill(1, 1, 20, 5, true))
		wantPlaced(t, b, incoming{7, 3 - side, 20, 6, true}, booked(10, near, own, far, order(9, 7, 3-side, 20, 6)), 6, 9)
	}
}

// P9.4: no order rests behind 40 others; what is done has made room, and what doesn't rest needs none.
func TestPlaceFull(t *testing.T) {
	for _, buyers := range []int{0, 1, 20, 39, 40} {
		b := full(buyers)
		for _, side := range []int{buy, sell} {
			wantError(t, b, incoming{5, side, 55, 1, true}, api.ErrFull)
			wantPlaced(t, b, incoming{5, side, 55, 1, false}, b, 1, 0)
		}
	}
	b := full(38)
	arrived := append(crowd(38, 100, 1, buy, 50, 3), crowd(2, 200, 2, sell, 60, 3)...)
	one, two := fill(200, 2, 60, 3, true), fill(201, 2, 60, 3, true)
	wantError(t, b, incoming{5, buy, 59, 3, true}, api.ErrFull)
	wantPlaced(t, b, incoming{5, buy, 60, 3, true}, booked(1000, append(slices.Clone(arrived[:38]), arrived[39])...), 0, 0, one)
	wantPlaced(t, b, incoming{5, buy, 60, 2, true}, booked(1000, append(slices.Clone(arrived[:38]), order(200, 2, sell, 60, 1), arrived[39])...), 0, 0, fill(200, 2, 60, 2, false))
	wantPlaced(t, b, incoming{5, buy, 60, 7, true}, booked(1001, append(slices.Clone(arrived[:38]), order(1000, 5, buy, 60, 1))...), 1, 1000, one, two)
	wantPlaced(t, b, incoming{5, buy, 60, 7, false}, booked(1000, arrived[:38]...), 1, 0, one, two)
	thirtyNine := booked(1000, arrived[:39]...)
	wantPlaced(t, thirtyNine, incoming{5, sell, 70, 1, true}, booked(1001, append(slices.Clone(arrived[:39]), order(1000, 5, sell, 70, 1))...), 1, 1000)
	last := booked(1000, append(slices.Clone(arrived[:39]), order(300, 3, sell, 70, 1))...)
	wantPlaced(t, last, incoming{5, buy, 65, 4, true}, booked(1001, append(slices.Clone(arrived[:38]), order(300, 3, sell, 70, 1), order(1000, 5, buy, 65, 1))...), 1, 1000, one)
}

// P9.4: no order rests with the Id MaxBallot; one that needn't rest trades all the same.
func TestPlaceLastId(t *testing.T) {
	s := order(1, 1, sell, 10, 5)
	wantError(t, booked(maxId), incoming{5, buy, 9, 1, true}, api.ErrFull)
	wantError(t, booked(maxId, s), incoming{5, buy, 9, 1, true}, api.ErrFull)
	wantError(t, booked(maxId, s), incoming{5, buy, 10, 6, true}, api.ErrFull)
	wantPlaced(t, booked(maxId, s), incoming{5, buy, 10, 5, true}, booked(maxId), 0, 0, fill(1, 1, 10, 5, true))
	wantPlaced(t, booked(maxId, s), incoming{5, buy, 10, 6, false}, booked(maxId), 1, 0, fill(1, 1, 10, 5, true))
	wantPlaced(t, booked(maxId, s), incoming{5, buy, 9, 6, false}, booked(maxId, s), 6, 0)
	wantPlaced(t, booked(maxId-1, s), incoming{5, buy, 9, 6, true}, booked(maxId, s, order(maxId-1, 5, buy, 9, 6)), 6, maxId-1)
}

// P9.4: the errors come in the order in which the chapter tells them.
func TestPlaceErrors(t *testing.T) {
	b := full(38)
	wantError(t, b, incoming{2, buy, 60, 100, true}, api.ErrSelf)
	wantError(t, b, incoming{2, buy, 60, 100, false}, api.ErrSelf)
	wantError(t, b, incoming{2, buy, 60, maxPrice + 1, true}, api.ErrArg)
	b.Next = maxId
	wantError(t, b, incoming{2, buy, 60, 100, true}, api.ErrSelf)
	wantError(t, b, incoming{2, buy, 59, 100, true}, api.ErrFull)
	wantError(t, b, incoming{3, buy, 60, 100, true}, api.ErrFull)
	wantError(t, b, incoming{2, 3, 59, 100, true}, api.ErrArg)
	b.Next++
	wantError(t, b, incoming{2, buy, 60, 100, true}, api.ErrArg)
	b.Next = 200
	wantError(t, b, incoming{2, buy, 60, 100, true}, api.ErrArg)
}

// ordersOf are all orders of b.
func ordersOf(b api.Book) []api.Order {
	l := []api.Order{}
	for _, v := range slices.Concat(b.Buys, b.Sells) {
		l = append(l, v.Orders...)
	}
	return l
}

// P9.5, P9.9: each order can be taken out, by its owner alone, and all else stays.
func TestCancel(t *testing.T) {
	for _, b := range rights() {
		orders := ordersOf(b)
		for i, o := range orders {
			rest := slices.Delete(slices.Clone(orders), i, i+1)
			wantCancel(t, b, o.Owner, o.Id, booked(b.Next, rest...), o, api.OK)
			for _, owner := range append(numbers(), o.Owner+1, o.Owner-1) {
				if owner != o.Owner {
					wantCancel(t, b, owner, o.Id, b, api.Order{}, api.ErrOther)
				}
			}
		}
	}
}

// P9.5: an Id that doesn't rest, whoever asks.
func TestCancelNone(t *testing.T) {
	for _, b := range rights() {
		orders := ordersOf(b)
		for _, id := range append(numbers(), 12, 20, 140, 999, 1000) {
			if slices.ContainsFunc(orders, func(o api.Order) bool { return o.Id == id }) {
				continue
			}
			for _, owner := range []int{-1, 0, 1, 2, 63, 64} {
				wantCancel(t, b, owner, id, b, api.Order{}, api.ErrNone)
			}
		}
	}
}

// P9.5: a book that isn't valid comes back as it was, even if its order could be found.
func TestCancelWrongBook(t *testing.T) {
	for _, b := range wrongs() {
		for _, o := range append(ordersOf(b), order(77, 1, buy, 1, 1)) {
			wantCancel(t, b, o.Owner, o.Id, b, api.Order{}, api.ErrArg)
			wantCancel(t, b, o.Owner+1, o.Id, b, api.Order{}, api.ErrArg)
		}
	}
}

// model is another book: all orders in the order of their arrival, of which the best one is searched for each time.
type model struct {
	orders []api.Order
	next   int
}

func (m model) book() api.Book {
	return booked(m.next, m.orders...)
}

// best tells where the best order is that o meets, or -1.
func (m model) best(o incoming) int {
	best := -1
	for i, r := range m.orders {
		if r.Side == o.side || o.side == buy && r.Price > o.price || o.side == sell && r.Price < o.price {
			continue
		}
		if best < 0 || o.side == buy && r.Price < m.orders[best].Price || o.side == sell && r.Price > m.orders[best].Price {
			best = i
		}
	}
	return best
}

// place tells what Place should answer, and the model behind it.
func (m model) place(o incoming) (model, result) {
	after, r := model{slices.Clone(m.orders), m.next}, result{left: o.qty}
	for at := after.best(o); r.left > 0 && at >= 0; at = after.best(o) {
		rests := &after.orders[at]
		if rests.Owner == o.owner {
			return m, result{book: m.book(), err: api.ErrSelf}
		}
		f := api.Fill{Order: rests.Id, Owner: rests.Owner, Price: rests.Price, Qty: min(r.left, rests.Left)}
		rests.Left -= f.Qty
		r.left -= f.Qty
		if rests.Left == 0 {
			f.Done = true
			after.orders = slices.Delete(after.orders, at, at+1)
		}
		r.fills = append(r.fills, f)
	}
	if o.rest && r.left > 0 {
		if len(after.orders) >= maxOrders {
			return m, result{book: m.book(), err: api.ErrFull}
		}
		r.id = after.next
		after.orders = append(after.orders, order(r.id, o.owner, o.side, o.price, r.left))
		after.next++
	}
	r.book = after.book()
	return after, r
}

// wantWorth wants what P9.6 and P9.7 say of an order that was placed.
func wantWorth(t *testing.T, before api.Book, o incoming, r result) {
	t.Helper()
	sum := r.left
	for i, f := range r.fills {
		sum += f.Qty
		worse := o.side == buy && f.Price > o.price || o.side == sell && f.Price < o.price
		if worse || f.Qty < 1 || i < len(r.fills)-1 && !f.Done {
			t.Errorf("Place(%v, %v) = %v", before, o, r)
		}
	}
	if sum != o.qty {
		t.Errorf("Place(%v, %v) = %v: %d in all", before, o, r, sum)
	}
	wantRight(t, r.book, true)
	if buyer, seller := book.Top(r.book); buyer > 0 && seller > 0 && buyer >= seller {
		t.Errorf("Top(%v) = %d, %d", r.book, buyer, seller)
	}
}

// cancel takes the order at that place out of the model and of b, if it is owner's.
func (m model) cancel(t *testing.T, b api.Book, owner, at int) (model, api.Book) {
	o := m.orders[at]
	if o.Owner != owner {
		wantCancel(t, b, owner, o.Id, b, api.Order{}, api.ErrOther)
		return m, b
	}
	after := model{slices.Delete(slices.Clone(m.orders), at, at+1), m.next}
	wantCancel(t, b, owner, o.Id, after.book(), o, api.OK)
	b, _, _ = book.Cancel(b, owner, o.Id)
	wantCancel(t, b, owner, o.Id, b, api.Order{}, api.ErrNone)
	return after, b
}

// run holds many steps against the model: orders of so many owners, prices and quantities, of which apart in ten keep away from the other side, so that many rest. It counts how often each error came.
func run(t *testing.T, owners, prices, qtys, apart int, met map[api.Errno]int) {
	m, b := model{next: 1}, book.New()
	for p := range slices.Chunk(mixed(6*400, 1<<30-owners-prices-apart), 6) {
		if p[0]%5 == 0 && len(m.orders) > 0 {
			m, b = m.cancel(t, b, p[2]%owners, p[1]%len(m.orders))
			continue
		}
		o := incoming{p[1] % owners, 1 + p[2]%2, 1 + p[3]%prices, 1 + p[4]%qtys, p[5]%4 > 0}
		if p[0]%10 < apart {
			o.price = 1 + (p[3]%prices+(o.side-1)*prices)/2
		}
		after, want := m.place(o)
		wantPlace(t, b, o, want)
		r := place(b, o)
		met[r.err]++
		if r.err == api.OK {
			wantWorth(t, b, o, r)
		}
		if m, b = after, r.book; t.Failed() {
			t.FailNow()
		}
	}
}

// P9.4 to P9.9: many orders that come, trade and go, held against a book of another sort.
func TestMany(t *testing.T) {
	met := map[api.Errno]int{}
	for _, owners := range []int{2, 5, 64} {
		for _, prices := range []int{3, 20, maxPrice} {
			for _, qtys := range []int{1, 9, maxPrice} {
				run(t, owners, prices, qtys, 0, met)
				run(t, owners, prices, qtys, 9, met)
			}
		}
	}
	// A run that seldom comes to one of them would hold nothing of it.
	for _, err := range []api.Errno{api.OK, api.ErrSelf, api.ErrFull} {
		if met[err] < 200 {
			t.Errorf("error %d came %d times", err, met[err])
		}
	}
}

// P9.8, P9.5: placed and taken out again, an order leaves the book as it was, but for the next Id.
func TestPlacedAndCancelled(t *testing.T) {
	for _, b := range rights() {
		for _, side := range []int{buy, sell} {
			buyer, seller := book.Top(b)
			price := []int{0, max(1, min(buyer, maxPrice-1)), max(2, seller)}[side]
			r := place(b, incoming{44, side, price, 8, true})
			if len(r.fills) > 0 || r.err != api.OK {
				continue
			}
			want := copied(b)
			want.Next++
			wantCancel(t, r.book, 44, r.id, want, order(b.Next, 44, side, price, 8), api.OK)
		}
	}
}

// spare is an order that lies behind the end of lists.
func spare() api.Order {
	return order(555, 55, 5, 55, 5)
}

// roomy is b with room behind the end of each list, in which other things lie.
func roomy(b api.Book) api.Book {
	levels := func(l []api.Level) []api.Level {
		room := []api.Level{}
		for _, v := range l {
			orders := append(slices.Clone(v.Orders), spare(), spare(), spare())
			room = append(room, api.Level{Price: v.Price, Orders: orders[:len(v.Orders)]})
		}
		behind := api.Level{Price: 55, Orders: []api.Order{spare()}}
		return append(room, behind, behind)[:len(l)]
	}
	return api.Book{Buys: levels(b.Buys), Sells: levels(b.Sells), Next: b.Next}
}

// behind is b with what lies behind the end of each list too.
func behind(b api.Book) api.Book {
	levels := func(l []api.Level) []api.Level {
		all := slices.Clone(l[:len(l)+2])
		for i, v := range l {
			all[i].Orders = v.Orders[:len(v.Orders)+3]
		}
		return all
	}
	return api.Book{Buys: levels(b.Buys), Sells: levels(b.Sells), Next: b.Next}
}

// wantRoomy wants b to be what roomy made of old.
func wantRoomy(t *testing.T, b, old api.Book) {
	t.Helper()
	if want := roomy(old); !same(b, old) || !same(behind(b), behind(want)) {
		t.Fatalf("%v is there, want %v", behind(b), behind(want))
	}
}

// some are orders that trade with few and with many, that rest and that can't.
func some() []incoming {
	l := []incoming{}
	for _, side := range []int{buy, sell} {
		for _, price := range []int{1, 9, 11, 12, 50, 55, 60, maxPrice} {
			for _, qty := range []int{1, 3, 5, 8, 1000} {
				l = append(l, incoming{40, side, price, qty, true}, incoming{40, side, price, qty, false}, incoming{1, side, price, qty, true})
			}
		}
	}
	return l
}

// R3: neither a book that is handed in nor what is behind the end of its lists is changed.
func TestUnchanged(t *testing.T) {
	for _, old := range append(rights(), wrongs()...) {
		b := roomy(old)
		for _, o := range some() {
			place(b, o)
		}
		for _, o := range ordersOf(old) {
			book.Cancel(b, o.Owner, o.Id)
			book.Cancel(b, o.Owner+1, o.Id)
		}
		book.Cancel(b, 0, 999)
		book.Top(b)
		book.Right(b)
		wantRoomy(t, b, old)
	}
}

// scribble writes over all orders of b, one list after the other, and wants the other ones and old to stay as they were.
func scribble(t *testing.T, b, old api.Book) {
	t.Helper()
	want := copied(b)
	for side, l := range [][]api.Level{b.Buys, b.Sells} {
		wants := [][]api.Level{want.Buys, want.Sells}[side]
		for i := range l {
			orders := l[i].Orders[:cap(l[i].Orders)]
			for j := range orders {
				orders[j] = order(66, 6, 6, 66, 6)
			}
			for j := range wants[i].Orders {
				wants[i].Orders[j] = order(66, 6, 6, 66, 6)
			}
			if !same(b, want) {
				t.Fatalf("%v is there, want %v", b, want)
			}
		}
	}
	for _, l := range [][]api.Level{b.Buys, b.Sells} {
		for i := range l[:cap(l)] {
			l[:cap(l)][i] = api.Level{Price: 66}
		}
	}
	for i := range want.Sells {
		want.Sells[i] = api.Level{Price: 66}
	}
	for i := range want.Buys {
		want.Buys[i] = api.Level{Price: 66}
	}
	if !same(b, want) {
		t.Fatalf("%v is there, want %v", b, want)
	}
}

// R3: a book that is told shares nothing with the one that was handed in, nor do two lists of it.
func TestOwnMemory(t *testing.T) {
	for _, old := range rights() {
		b := roomy(old)
		for _, o := range some() {
			if r := place(b, o); r.err == api.OK {
				scribble(t, r.book, old)
				wantRoomy(t, b, old)
			}
		}
		for _, o := range ordersOf(old) {
			left, _, _ := book.Cancel(b, o.Owner, o.Id)
			scribble(t, left, old)
			wantRoomy(t, b, old)
		}
	}
}

// R3: what was told stays so when the same book is put to use again.
func TestKept(t *testing.T) {
	b := place(plain(), incoming{50, buy, 10, 3, true}).book
	first := place(b, incoming{51, buy, 10, 3, true})
	want, wantFills := copied(first.book), slices.Clone(first.fills)
	for _, o := range some() {
		place(b, o)
		place(first.book, o)
	}
	book.Cancel(first.book, 51, first.id)
	book.Cancel(b, 50, 20)
	if !same(first.book, want) || !slices.Equal(first.fills, wantFills) {
		t.Errorf("%v, want %v", first.book, want)
	}
	news := book.New()
	place(news, incoming{1, buy, 1, 1, true})
	if !same(book.New(), news) || !same(news, api.Book{Next: 1}) {
		t.Errorf("New() = %v", book.New())
	}
}

// R4: the same answer each time.
func TestAgain(t *testing.T) {
	o := incoming{50, buy, 14, 11, true}
	want := place(plain(), o)
	left, was, _ := book.Cancel(plain(), 7, 2)
	for range 20 {
		wantPlace(t, plain(), o, want)
		wantCancel(t, plain(), 7, 2, left, was, api.OK)
	}
}

// R1: no call panics, whatever it is given.
func TestNoPanic(t *testing.T) {
	for _, b := range append(rights(), wrongs()...) {
		for _, n := range numbers() {
			for _, m := range numbers() {
				book.Place(b, n, m, n, m, true)
				book.Place(b, 1, buy, n, m, m%2 == 0)
				book.Place(b, n, sell, m, 1, n%2 == 0)
				book.Cancel(b, n, m)
			}
			b.Next = n
			book.Right(b)
			book.Top(b)
		}
	}
}

// R1: a call ends soon for a book of very many orders too, which isn't valid.
func TestVeryMany(t *testing.T) {
	b := api.Book{Next: maxId, Buys: []api.Level{{Price: 1}}}
	for id := 1; id <= 200000; id++ {
		b.Buys[0].Orders = append(b.Buys[0].Orders, order(id, 1, buy, 1, 1))
		b.Sells = append(b.Sells, api.Level{Price: 1 + id, Orders: []api.Order{order(200000+id, 1, sell, 1+id, 1)}})
	}
	wantRight(t, b, false)
	wantTop(t, b, 1, 2)
	if r := place(b, incoming{2, buy, 9, 9, true}); r.err != api.ErrArg || r.book.Next != maxId {
		t.Errorf("Place: %d", r.err)
	}
	if _, o, err := book.Cancel(b, 1, 1); o != (api.Order{}) || err != api.ErrArg {
		t.Errorf("Cancel: %v, %d", o, err)
	}
}
