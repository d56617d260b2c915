package audit_test

import (
	"math"
	"slices"
	"testing"

	"cambist/api"
	"cambist/audit"
	"cambist/exchange"
)

// The limits, the sides and the kinds, by the document's own figures.
const (
	most      = 1125899906842624
	maxPrice  = 1048576
	maxId     = 1073741824
	accounts  = 64
	assets    = 8
	maxLanes  = 6
	buy, sell = 1, 2
	deposit   = 1
	withdraw  = 2
	limit     = 3
	ioc       = 4
	cancel    = 5
	collect   = 6
	balance   = 7
	top       = 8
)

// figures are numbers by asset.
type figures [assets]int

// numbers are ints of all sorts: the least and the greatest ones, and those about each limit.
func numbers() []int {
	return []int{math.MinInt, math.MinInt + 1, math.MinInt32, -most, -8, -2, -1, 0, 1, 2, 3, 5, 6, 7, 8, 9, 39, 40, 41, 63, 64, 65, 255, maxPrice, maxPrice + 1, maxId, maxId + 1, most, most + 1, math.MaxInt - 1, math.MaxInt}
}

func order(id, owner, side, price, left int) api.Order {
	return api.Order{Id: id, Owner: owner, Side: side, Price: price, Left: left}
}

func hold(account, asset, amount int) api.Holding {
	return api.Holding{Purse: api.Purse{Account: account, Asset: asset}, Amount: amount}
}

func list(l ...api.Holding) []api.Holding {
	return l
}

func pair(base, quote int) api.Purse {
	return api.Purse{Account: base, Asset: quote}
}

// sessionOf is a session with its reply.
func sessionOf(client, seq int) api.Session {
	return api.Session{Client: client, Seq: seq, Reply: api.Reply{Client: client, Seq: seq, A: 7}}
}

// sortedSide is the orders of one side, which are told in the order of their arrival, as levels.
func sortedSide(side int, arrived []api.Order) []api.Level {
	l := []api.Level{}
	for _, o := range arrived {
		if o.Side != side {
			continue
		}
		i := 0
		for i < len(l) && (side == buy && l[i].Price > o.Price || side == sell && l[i].Price < o.Price) {
			i++
		}
		if i == len(l) || l[i].Price != o.Price {
			l = slices.Insert(l, i, api.Level{Price: o.Price})
		}
		l[i].Orders = append(l[i].Orders, o)
	}
	return l
}

// laned is a lane of orders that are told in the order of their arrival.
func laned(base, quote, next int, owed []api.Holding, arrived ...api.Order) api.Lane {
	b := api.Book{Buys: sortedSide(buy, arrived), Sells: sortedSide(sell, arrived), Next: next}
	return api.Lane{Base: base, Quote: quote, Book: b, Owed: owed}
}

// crowd is 40 orders, of several owners, on both sides: 20 times 3 are bought at 50, 50, 49, 49 and so on, and 20 times 3 sold.
func crowd() []api.Order {
	l := []api.Order{}
	for i := range 20 {
		l = append(l, order(100+i, i%3, buy, 50-i/2, 3), order(200+i, 3+i%3, sell, 60+i/2, 3))
	}
	return l
}

// plain is an exchange of three lanes, several clients and all assets, which has lost nothing.
func plain() api.Exchange {
	return api.Exchange{
		Free: list(hold(0, 3, 7), hold(1, 1, 50), hold(1, 2, 1000), hold(2, 1, 40), hold(2, 2, 900), hold(3, 0, 5), hold(4, 4, 6), hold(5, 7, most), hold(63, 1, most-3), hold(63, 5, 1)),
		Lanes: []api.Lane{
			// 153 of asset 2 and 14 of asset 1 are reserved, 88 of asset 2 and 10 of asset 1 owed.
			laned(1, 2, 20, list(hold(2, 2, 8), hold(3, 1, 6), hold(3, 2, 80), hold(63, 1, 4)),
				order(9, 3, buy, 9, 4), order(3, 4, buy, 10, 5), order(7, 5, buy, 7, 1), order(4, 6, buy, 10, 6),
				order(8, 7, sell, 12, 4), order(2, 3, sell, 14, 5), order(13, 8, sell, 12, 1), order(5, 63, sell, 15, 4)),
			laned(0, 7, 1, nil),
			// 12 of asset 1 and 2 of asset 2 are reserved, 9 of asset 2 owed.
			laned(2, 1, 7, list(hold(3, 2, 9)), order(2, 2, buy, 3, 4), order(6, 1, sell, 8, 2)),
		},
		Sessions: []api.Session{sessionOf(1, 4), sessionOf(2, most), sessionOf(63, 1)},
		In:       list(hold(0, 0, 9), hold(1, 1, 140), hold(1, 2, 2152), hold(2, 1, most-3), hold(4, 3, 7), hold(5, 7, most), hold(6, 4, 16), hold(9, 5, 1), hold(9, 6, 77), hold(11, 7, most)),
		Out:      list(hold(0, 1, 6), hold(1, 1, 8), hold(4, 4, 10), hold(7, 7, most), hold(9, 0, 4), hold(9, 6, 77)),
	}
}

// small is the chapter's exchange: 80 of asset 0 are free, 20 owed, and of asset 1 2, 4 and 3 are free of the buyer, free of the seller, and reserved.
func small() api.Exchange {
	return api.Exchange{
		Free:     list(hold(1, 0, 80), hold(1, 1, 2), hold(2, 1, 4)),
		Lanes:    []api.Lane{laned(1, 0, 2, list(hold(2, 0, 20)), order(1, 2, sell, 10, 3))},
		Sessions: []api.Session{sessionOf(1, 2), sessionOf(2, 2)},
		In:       list(hold(1, 0, 100), hold(2, 1, 9)),
	}
}

// full is an exchange with as much of all as can be, but what came in, which is told anew by balanced. Nothing went out, as too much is there.
func full() api.Exchange {
	x := api.Exchange{}
	for id := range accounts {
		for asset := range assets {
			x.Out = append(x.Out, hold(id, asset, most))
			if id < accounts/8 {
				x.Free = append(x.Free, hold(id, asset, most))
			}
		}
		x.Sessions = append(x.Sessions, sessionOf(id, most-id))
	}
	for i := range maxLanes {
		owed := slices.DeleteFunc(slices.Clone(x.Free), func(h api.Holding) bool { return h.Purse.Asset != i && h.Purse.Asset != i+1 })
		x.Lanes = append(x.Lanes, laned(i+1, i, maxId, owed, crowd()...))
	}
	x.Out = x.Out[:len(x.Out)/8]
	return balanced(x)
}

// balanced is x with so much come in, of the last accounts, that nothing is lost.
func balanced(x api.Exchange) api.Exchange {
	x.In = nil
	there := lost(x)
	for id := range accounts {
		for asset, n := range there {
			if rest := -n - (accounts-1-id)*most; rest > 0 {
				x.In = append(x.In, hold(id, asset, min(rest, most)))
			}
		}
	}
	return x
}

// lost is what is lost of each asset in an exchange that is valid, by its lists alone.
func lost(x api.Exchange) figures {
	f := figures{}
	f.add(x.In, 1)
	f.add(x.Out, -1)
	f.add(x.Free, -1)
	for _, l := range x.Lanes {
		f.add(l.Owed, -1)
		for _, v := range l.Book.Buys {
			for _, o := range v.Orders {
				f[l.Quote] -= o.Price * o.Left
			}
		}
		for _, v := range l.Book.Sells {
			for _, o := range v.Orders {
				f[l.Base] -= o.Left
			}
		}
	}
	return f
}

func (f *figures) add(l []api.Holding, sign int) {
	for _, h := range l {
		f[h.Purse.Asset] += sign * h.Amount
	}
}

// sounds are exchanges of all sorts that are sound.
func sounds() []api.Exchange {
	return []api.Exchange{
		{}, plain(), small(), full(),
		{Lanes: []api.Lane{laned(0, 1, 1, nil)}},
		{Lanes: []api.Lane{laned(0, 1, 1, nil), laned(1, 0, maxId, nil), laned(0, 1, 1, nil), laned(7, 0, 1, nil), laned(6, 7, 1, nil), laned(2, 3, 1, nil)}},
		{Free: list(hold(0, 0, 1)), In: list(hold(0, 0, 1))}, {In: list(hold(63, 7, most)), Free: list(hold(0, 7, most))}, {In: list(hold(63, 7, most)), Out: list(hold(0, 7, most))},
		{Sessions: []api.Session{sessionOf(0, 1)}},
		balanced(api.Exchange{Lanes: []api.Lane{laned(1, 2, 1000, nil, crowd()...), laned(2, 1, maxId, list(hold(1, 2, most), hold(3, 1, most)), crowd()[:9]...)}}),
		balanced(api.Exchange{Lanes: []api.Lane{laned(3, 4, 3, nil, order(1, 5, buy, maxPrice-1, maxPrice), order(2, 5, sell, maxPrice, maxPrice))}}),
	}
}

// wrongLanes are lanes that are not valid, each for one reason; none is crossed.
func wrongLanes() []api.Lane {
	b, s, owed := order(1, 0, buy, 9, 1), order(2, 0, sell, 10, 1), list(hold(1, 1, 5), hold(1, 2, 6))
	return []api.Lane{
		{}, laned(3, 3, 3, nil, b, s), laned(-1, 3, 3, nil, b, s), laned(3, 8, 3, nil, b, s),
		laned(1, 2, 2, owed, b, s), laned(1, 2, 0, owed), laned(1, 2, maxId+1, owed),
		laned(1, 2, 9, owed, b, order(1, 0, sell, 10, 1)), laned(1, 2, 9, owed, order(1, 64, buy, 9, 1)),
		laned(1, 2, 9, owed, b, order(2, 0, sell, maxPrice+1, 1)), laned(1, 2, 9, owed, b, order(2, 0, sell, 10, 0)),
		laned(1, 2, 3, list(hold(1, 3, 5)), b, s), laned(1, 2, 3, list(hold(1, 1, 0)), b, s), laned(1, 2, 3, list(hold(1, 2, 5), hold(1, 1, 5)), b, s),
		laned(1, 2, 300, owed, append(crowd(), order(7, 9, sell, 90, 1))...),
		{Base: 1, Quote: 2, Owed: owed, Book: api.Book{Next: 1, Buys: make([]api.Level, 1)}},
	}
}

// wrongHoldings are lists of holdings that are not valid, each for one reason.
func wrongHoldings() [][]api.Holding {
	return [][]api.Holding{
		{{}}, list(hold(1, 1, -1)), list(hold(1, 2, most+1)), list(hold(64, 1, 5)), list(hold(-1, 2, 5)), list(hold(1, 8, 5)), list(hold(1, -1, 5)),
		list(hold(1, 1, 5), hold(1, 1, 5)), list(hold(1, 2, 5), hold(1, 1, 5)), list(hold(2, 1, 5), hold(1, 2, 5)), list(hold(1, 1, 5), hold(2, 2, 5), hold(2, 2, 6)),
	}
}

// wrongSessions are lists of sessions that are not valid, each for one reason.
func wrongSessions() [][]api.Session {
	a, b := sessionOf(3, 5), sessionOf(4, 5)
	other, early := a, a
	other.Reply.Client, early.Reply.Seq = 4, 4
	return [][]api.Session{{{}}, {b, a}, {a, a}, {other}, {early}, {a, sessionOf(64, 5)}, {sessionOf(-1, 5), a}, {sessionOf(3, 0)}, {sessionOf(3, most+1)}}
}

// wrongs are exchanges that are not valid, each for one reason, though they have lost nothing and are not crossed: what is not valid counts as nothing.
func wrongs() []api.Exchange {
	l := []api.Exchange{}
	for _, x := range sounds() {
		for len(x.Lanes) <= maxLanes {
			x.Lanes = append(slices.Clone(x.Lanes), laned(1, 2, 1, nil))
		}
		l = append(l, x)
	}
	for _, w := range wrongLanes() {
		l = append(l, api.Exchange{Lanes: []api.Lane{w}})
		for i := range 4 {
			x := plain()
			x.Lanes = slices.Insert(x.Lanes, i, w)
			l = append(l, x)
		}
	}
	for _, w := range wrongHoldings() {
		l = append(l, api.Exchange{Free: w}, api.Exchange{In: w}, api.Exchange{Out: w})
		lanes := plain().Lanes[1:2]
		l = append(l, api.Exchange{Free: w, In: w, Out: w, Lanes: lanes})
		l = append(l, api.Exchange{Out: w, Free: plain().Free, In: plain().Free, Lanes: lanes})
	}
	for _, w := range wrongSessions() {
		x := plain()
		x.Sessions = w
		l = append(l, x, api.Exchange{Sessions: w})
	}
	return l
}

// copied is x in memory of its own, list by list.
func copied(x api.Exchange) api.Exchange {
	levels := func(l []api.Level) []api.Level {
		own := []api.Level{}
		for _, v := range l {
			own = append(own, api.Level{Price: v.Price, Orders: append([]api.Order{}, v.Orders...)})
		}
		return own
	}
	own := api.Exchange{
		Free: append([]api.Holding{}, x.Free...), Sessions: append([]api.Session{}, x.Sessions...),
		In: append([]api.Holding{}, x.In...), Out: append([]api.Holding{}, x.Out...),
	}
	for _, l := range x.Lanes {
		b := api.Book{Buys: levels(l.Book.Buys), Sells: levels(l.Book.Sells), Next: l.Book.Next}
		own.Lanes = append(own.Lanes, api.Lane{Base: l.Base, Quote: l.Quote, Book: b, Owed: append([]api.Holding{}, l.Owed...)})
	}
	return own
}

// same tells whether a and b hold the same, level by level, of which nil and empty lists are alike.
func same(a, b api.Exchange) bool {
	levels := func(v, w api.Level) bool { return v.Price == w.Price && slices.Equal(v.Orders, w.Orders) }
	lanes := func(a, b api.Lane) bool {
		return a.Base == b.Base && a.Quote == b.Quote && a.Book.Next == b.Book.Next && slices.Equal(a.Owed, b.Owed) &&
			slices.EqualFunc(a.Book.Buys, b.Book.Buys, levels) && slices.EqualFunc(a.Book.Sells, b.Book.Sells, levels)
	}
	return slices.Equal(a.Free, b.Free) && slices.EqualFunc(a.Lanes, b.Lanes, lanes) &&
		slices.Equal(a.Sessions, b.Sessions) && slices.Equal(a.In, b.In) && slices.Equal(a.Out, b.Out)
}

func wantSound(t *testing.T, x api.Exchange, want bool) {
	t.Helper()
	if got := audit.Sound(x); got != want {
		t.Errorf("Sound(%v) = %t, want %t", x, got, want)
	}
}

// wantBalance wants Balance to answer these figures, and 0 of what is no asset.
func wantBalance(t *testing.T, x api.Exchange, want figures) {
	t.Helper()
	for asset, n := range want {
		if got := audit.Balance(x, asset); got != n {
			t.Errorf("Balance(%v, %d) = %d, want %d", x, asset, got, n)
		}
	}
	for _, asset := range numbers() {
		if got := audit.Balance(x, asset); got != 0 && (asset < 0 || asset >= assets) {
			t.Errorf("Balance(%v, %d) = %d, want 0", x, asset, got)
		}
	}
}

func wantCrossed(t *testing.T, x api.Exchange, want bool) {
	t.Helper()
	if got := audit.Crossed(x); got != want {
		t.Errorf("Crossed(%v) = %t, want %t", x, got, want)
	}
}

func wantUses(t *testing.T, x api.Exchange, client, resting, owed int) {
	t.Helper()
	if n, m := audit.Uses(x, client); n != resting || m != owed {
		t.Errorf("Uses(%v, %d) = %d, %d, want %d, %d", x, client, n, m, resting, owed)
	}
}

// P13.2, P13.3: the limits, kinds and sides are the document's.
func TestLimits(t *testing.T) {
	got := []int{api.MaxLanes, api.MaxAmount, api.MaxAssets, api.MaxAccounts, api.MaxPrice, api.MaxBallot, api.Buy, api.Sell, api.CmdDeposit, api.CmdWithdraw, api.CmdLimit, api.CmdIoc, api.CmdCancel, api.CmdCollect, api.CmdBalance, api.CmdTop}
	want := []int{maxLanes, most, assets, accounts, maxPrice, maxId, buy, sell, deposit, withdraw, limit, ioc, cancel, collect, balance, top}
	if !slices.Equal(got, want) {
		t.Fatalf("%v, want %v", got, want)
	}
}

// P13.1, P13.3, P13.4: the chapter's examples, by commands.
func TestExamples(t *testing.T) {
	x, _ := exchange.New([]api.Purse{pair(1, 0)})
	cmds := []api.Cmd{
		{Client: 1, Seq: 1, Kind: deposit, Asset: 0, Qty: 100}, {Client: 2, Seq: 1, Kind: deposit, Asset: 1, Qty: 9},
		{Client: 2, Seq: 2, Kind: limit, Side: sell, Price: 10, Qty: 5}, {Client: 1, Seq: 2, Kind: limit, Side: buy, Price: 11, Qty: 2},
		{Client: 2, Seq: 3, Kind: collect},
	}
	// What the order reserves is not free, and nothing is lost.
	x, _ = exchange.Run(x, cmds[:3])
	if free := list(hold(1, 0, 100), hold(2, 1, 4)); !slices.Equal(x.Free, free) {
		t.Errorf("%v is free, want %v", x.Free, free)
	}
	wantBalance(t, x, figures{})
	wantSound(t, x, true)
	wantUses(t, x, 2, 1, 0)

	x, _ = exchange.Apply(x, cmds[3])
	wantBalance(t, x, figures{})
	wantSound(t, x, true)
	wantCrossed(t, x, false)
	wantUses(t, x, 2, 1, 1)
	wantUses(t, x, 1, 0, 0)

	y := copied(x)
	y.Free = nil
	wantBalance(t, y, figures{80, 6})
	wantSound(t, y, false)
	wantCrossed(t, y, false)
	wantUses(t, y, 2, 1, 1)

	x, _ = exchange.Apply(x, cmds[4])
	wantSound(t, x, true)
	wantUses(t, x, 2, 1, 0)
}

// P13.1: nothing is lost, wherever it lies and whosever it is.
func TestBalanceNone(t *testing.T) {
	for _, x := range sounds() {
		wantBalance(t, x, figures{})
	}
}

// P13.1: what came in counts for it, and all else against it, each by the totals of the asset.
func TestBalanceParts(t *testing.T) {
	l := plain().Lanes
	wantBalance(t, api.Exchange{In: plain().In}, figures{9, 137 + most, 2152, 7, 16, 1, 77, 2 * most})
	wantBalance(t, api.Exchange{Out: plain().Out}, figures{-4, -14, 0, 0, -10, 0, -77, -most})
	wantBalance(t, api.Exchange{Free: plain().Free}, figures{-5, -87 - most, -1900, -7, -6, -1, 0, -most})
	wantBalance(t, api.Exchange{Lanes: l}, figures{1: -36, 2: -252})
	wantBalance(t, api.Exchange{Lanes: l[:1]}, figures{1: -24, 2: -241})
	wantBalance(t, api.Exchange{Lanes: l[1:2]}, figures{})
	wantBalance(t, api.Exchange{Lanes: l[2:]}, figures{1: -12, 2: -11})
	wantBalance(t, api.Exchange{Sessions: plain().Sessions}, figures{})
	for base := range assets {
		for quote := range assets {
			if base == quote {
				continue
			}
			of := func(owed []api.Holding, arrived ...api.Order) api.Exchange {
				return api.Exchange{Lanes: []api.Lane{laned(base, quote, 9, owed, arrived...)}}
			}
			want := func(ofBase, ofQuote int) figures {
				f := figures{}
				f[base], f[quote] = ofBase, ofQuote
				return f
			}
			wantBalance(t, of(nil, order(1, 3, buy, 5, 7)), want(0, -35))
			wantBalance(t, of(nil, order(1, 3, sell, 5, 7)), want(-7, 0))
			wantBalance(t, of(list(hold(3, base, 4))), want(-4, 0))
			wantBalance(t, of(list(hold(3, quote, 4))), want(0, -4))
			wantBalance(t, of(list(hold(3, base, 4), hold(5, base, 6)), order(1, 3, buy, 5, 7), order(2, 3, buy, 4, 1), order(3, 6, sell, 6, 2)), want(-12, -39))
		}
	}
}

// P13.1: the greatest numbers.
func TestBalanceGreatest(t *testing.T) {
	all := []api.Holding{}
	for id := range accounts {
		for asset := range assets {
			all = append(all, hold(id, asset, most))
		}
	}
	every := func(n int) figures {
		return figures{n, n, n, n, n, n, n, n}
	}
	wantBalance(t, api.Exchange{In: all}, every(64*most))
	wantBalance(t, api.Exchange{In: all, Out: all}, figures{})
	wantBalance(t, api.Exchange{Out: all, Free: all}, every(-128*most))
	wantBalance(t, api.Exchange{In: all, Out: all, Free: all}, every(-64*most))
	arrived := []api.Order{}
	for i := range 40 {
		arrived = append(arrived, order(1+i, i, buy, maxPrice, maxPrice))
	}
	owed := slices.DeleteFunc(slices.Clone(all), func(h api.Holding) bool { return h.Purse.Asset < 6 })
	x := api.Exchange{Out: all, Free: all}
	for range maxLanes {
		x.Lanes = append(x.Lanes, laned(6, 7, 41, owed, arrived...))
	}
	want := every(-128 * most)
	want[6], want[7] = -128*most-6*64*most, -128*most-6*(64*most+40*maxPrice*maxPrice)
	wantBalance(t, x, want)
}

// P13.1: a list or a lane that is not valid counts as nothing, and all others as ever.
func TestBalanceWrong(t *testing.T) {
	for _, x := range wrongs() {
		wantBalance(t, x, figures{})
	}
	for _, w := range wrongHoldings() {
		x := plain()
		x.In = w
		wantBalance(t, x, figures{-9, -137 - most, -2152, -7, -16, -1, -77, -2 * most})
		x = plain()
		x.Out = w
		wantBalance(t, x, figures{4, 14, 0, 0, 10, 0, 77, most})
		x = plain()
		x.Free = w
		wantBalance(t, x, figures{5, 87 + most, 1900, 7, 6, 1, 0, most})
		x = plain()
		x.Lanes[0].Owed = w
		wantBalance(t, x, figures{1: 24, 2: 241})
		x = plain()
		x.Lanes[2].Owed = w
		wantBalance(t, x, figures{1: 12, 2: 11})
	}
}

// P13.1: all lanes count, even if there are too many.
func TestBalanceManyLanes(t *testing.T) {
	x := api.Exchange{}
	for n := range 20 {
		wantBalance(t, x, figures{0, -36 * n, -252 * n})
		x.Lanes = append(x.Lanes, plain().Lanes...)
	}
}

// P13.1, P13.3: one more or one less anywhere is told, of each asset, and the exchange isn't sound then; nor is it if another asset makes up for it.
func TestOff(t *testing.T) {
	for _, x := range sounds() {
		for _, f := range lostParts(x) {
			wantBalance(t, f.x, f.lost)
			wantSound(t, f.x, false)
		}
	}
	for asset := range assets {
		for other := range assets {
			x := api.Exchange{In: list(hold(3, asset, 5)), Free: list(hold(3, other, 5))}
			wantSound(t, x, asset == other)
			if asset < other {
				wantSound(t, api.Exchange{In: list(hold(3, asset, 5), hold(3, other, 6)), Out: list(hold(3, asset, 6), hold(3, other, 5))}, false)
			}
		}
	}
}

// part is an exchange that has lost something.
type part struct {
	x    api.Exchange
	lost figures
}

// lostParts are what becomes of x, which is sound, if one amount in it is one less, or one more where there may be more.
func lostParts(x api.Exchange) []part {
	l := []part{}
	add := func(asset, n int, change func(x *api.Exchange, n int)) {
		changed, f := copied(x), figures{}
		change(&changed, n)
		f[asset] = lost(changed)[asset]
		if f[asset] != 0 && exchange.Right(changed) {
			l = append(l, part{changed, f})
		}
	}
	for _, n := range []int{-1, 1} {
		for i, h := range x.In {
			add(h.Purse.Asset, n, func(x *api.Exchange, n int) { x.In[i].Amount += n })
		}
		for i, h := range x.Out {
			add(h.Purse.Asset, n, func(x *api.Exchange, n int) { x.Out[i].Amount += n })
		}
		for i, h := range x.Free {
			add(h.Purse.Asset, n, func(x *api.Exchange, n int) { x.Free[i].Amount += n })
		}
		for k, v := range x.Lanes {
			for i, h := range v.Owed {
				add(h.Purse.Asset, n, func(x *api.Exchange, n int) { x.Lanes[k].Owed[i].Amount += n })
			}
			for i := range v.Book.Buys {
				add(v.Quote, n, func(x *api.Exchange, n int) { x.Lanes[k].Book.Buys[i].Orders[0].Left += n })
			}
			for i := range v.Book.Sells {
				add(v.Base, n, func(x *api.Exchange, n int) { x.Lanes[k].Book.Sells[i].Orders[0].Left += n })
			}
		}
	}
	return l
}

// sided is a lane whose best buyer is at the one price and whose best seller at the other one, 0 of a side without orders.
func sided(buyAt, sellAt int) api.Lane {
	l := []api.Order{}
	for i := range 3 {
		if buyAt > i {
			l = append(l, order(1+i, 4, buy, buyAt-i, 5-i))
		}
		if sellAt > 0 {
			l = append(l, order(11+i, 5+i, sell, sellAt+i, 2+i))
		}
	}
	return laned(1, 2, 20, nil, l...)
}

// P13.2: a buyer who pays what a seller asks for, or more, crosses; of whichever lane.
func TestCrossed(t *testing.T) {
	prices := []int{0, 1, 2, 3, 9, 10, 11, 300, maxPrice - 2, maxPrice - 1, maxPrice}
	for _, b := range prices {
		for _, s := range prices {
			l, want := sided(b, s), b > 0 && s > 0 && b >= s
			wantCrossed(t, api.Exchange{Lanes: []api.Lane{l}}, want)
			for i := range 4 {
				x := plain()
				x.Lanes = slices.Insert(x.Lanes, i, l)
				wantCrossed(t, x, want)
				wantSound(t, balanced(x), s+2 <= maxPrice && !want)
			}
		}
	}
	for _, x := range sounds() {
		wantCrossed(t, x, false)
	}
}

// P13.2: orders of several lanes don't cross, nor do those of one side; but those of one owner do.
func TestCrossedWhere(t *testing.T) {
	wantCrossed(t, api.Exchange{}, false)
	wantCrossed(t, api.Exchange{Lanes: []api.Lane{sided(10, 0), sided(0, 10)}}, false)
	wantCrossed(t, api.Exchange{Lanes: []api.Lane{sided(0, 3), sided(10, 0)}}, false)
	wantCrossed(t, api.Exchange{Lanes: []api.Lane{sided(9, 10), sided(5, 6), sided(20, 21)}}, false)
	wantCrossed(t, api.Exchange{Lanes: []api.Lane{laned(1, 2, 9, nil, order(1, 4, buy, 9, 1), order(2, 4, sell, 9, 1))}}, true)
	wantCrossed(t, api.Exchange{Lanes: []api.Lane{laned(1, 2, 9, nil, order(1, 4, buy, 9, 1), order(2, 4, sell, 10, 1))}}, false)
}

// P13.2: whatever else may not be, the best prices alone decide.
func TestCrossedWrong(t *testing.T) {
	for _, x := range wrongs() {
		wantCrossed(t, x, false)
		for _, crossed := range []api.Lane{sided(10, 10), sided(11, 10)} {
			for i := range len(x.Lanes) + 1 {
				y := copied(x)
				y.Lanes = slices.Insert(y.Lanes, i, crossed)
				wantCrossed(t, y, true)
			}
		}
	}
	// A side without orders has no price, not even one above those that may not be.
	wantCrossed(t, api.Exchange{Lanes: []api.Lane{laned(1, 2, 9, nil, order(1, 4, sell, -5, 1))}}, false)
	wantCrossed(t, api.Exchange{Lanes: []api.Lane{laned(1, 2, 9, nil, order(1, 4, buy, -5, 1))}}, false)
	b, s := order(1, 70, buy, 9, 1), order(1, 70, sell, 9, 0)
	for _, l := range []api.Lane{laned(3, 3, 0, nil, b, s), laned(-1, 9, maxId+1, list(hold(9, 9, 9)), b, s)} {
		wantCrossed(t, api.Exchange{Lanes: []api.Lane{l}}, true)
		// Levels without orders have no price, and the first order is the best one.
		l.Book.Buys = slices.Insert(l.Book.Buys, 0, api.Level{Price: 5})
		l.Book.Sells = slices.Insert(l.Book.Sells, 0, api.Level{Price: 20})
		wantCrossed(t, api.Exchange{Lanes: []api.Lane{l}}, true)
		l.Book.Buys[0].Orders = []api.Order{order(3, 1, buy, 8, 1)}
		wantCrossed(t, api.Exchange{Lanes: []api.Lane{l}}, false)
		l.Book.Sells = l.Book.Sells[:1]
		l.Book.Buys = l.Book.Buys[1:]
		wantCrossed(t, api.Exchange{Lanes: []api.Lane{l}}, false)
	}
}

// P13.3: which exchanges are sound.
func TestSound(t *testing.T) {
	for _, x := range sounds() {
		wantSound(t, x, true)
	}
	wantSound(t, balanced(api.Exchange{Lanes: []api.Lane{sided(9, 10), sided(300, 301)}}), true)
}

// P13.3: nothing that is not valid is sound, though nothing is lost and nothing crosses.
func TestSoundWrong(t *testing.T) {
	for _, x := range wrongs() {
		wantSound(t, x, false)
	}
	// What is crossed counts as nothing, too.
	wantSound(t, api.Exchange{Lanes: []api.Lane{sided(10, 10)}}, false)
	wantBalance(t, api.Exchange{Lanes: []api.Lane{sided(10, 10)}}, figures{})
}

// P13.3: what lies elsewhere, or is another account's, is not lost.
func TestSoundMoved(t *testing.T) {
	for asset := range assets {
		for id := range accounts {
			own := list(hold(id, asset, 30))
			quote := (asset + 1) % assets
			x := api.Exchange{In: list(hold(63-id, asset, 30))}
			wantSound(t, x, false)
			x.Free = own
			wantSound(t, x, true)
			x.Free, x.Out = nil, own
			wantSound(t, x, true)
			x.Out, x.Lanes = nil, []api.Lane{laned(quote, asset, 5, own)}
			wantSound(t, x, true)
			x.Lanes = []api.Lane{laned(asset, quote, 5, nil), laned(asset, quote, 5, own)}
			wantSound(t, x, true)
			x.Lanes = []api.Lane{laned(asset, quote, 5, nil, order(4, id, sell, 77, 30))}
			wantSound(t, x, true)
			x.Lanes = []api.Lane{laned(quote, asset, 5, nil, order(4, id, buy, 10, 3))}
			wantSound(t, x, true)
			x.Free = own
			wantSound(t, x, false)
		}
	}
}

// P13.4: a client's orders on both sides and what it is owed of both assets, in all lanes.
func TestUses(t *testing.T) {
	resting := map[int]int{1: 1, 2: 1, 3: 2, 4: 1, 5: 1, 6: 1, 7: 1, 8: 1, 63: 1}
	owed := map[int]int{2: 1, 3: 3, 63: 1}
	for id := -1; id <= accounts; id++ {
		wantUses(t, plain(), id, resting[id], owed[id])
		wantUses(t, api.Exchange{}, id, 0, 0)
	}
	for _, id := range []int{0, 3, 63} {
		x := api.Exchange{Lanes: make([]api.Lane, maxLanes)}
		for i := range maxLanes {
			wantUses(t, x, id, 4*i, 2*i)
			x.Lanes[i] = laned(2, 1, 99, list(hold(id, 1, 5), hold(id, 2, 6)), order(1, id, buy, 9, 1), order(2, id, buy, 9, 1), order(3, id, buy, 8, 1), order(4, id, sell, 10, 1), order(5, id^1, sell, 10, 1))
		}
		wantUses(t, x, id, 4*maxLanes, 2*maxLanes)
		wantUses(t, x, id^1, maxLanes, 0)
	}
	for id, n := range []int{7 * maxLanes, 7 * maxLanes, 6 * maxLanes, 7 * maxLanes, 7 * maxLanes, 6 * maxLanes, 0, 0, 0} {
		wantUses(t, full(), id, n, map[bool]int{true: 2 * maxLanes}[id < 8])
	}
}

// P13.4: neither amounts, nor what is free, nor other clients matter.
func TestUsesAlone(t *testing.T) {
	for _, x := range sounds() {
		y := api.Exchange{Lanes: x.Lanes}
		for id := range accounts {
			n, m := audit.Uses(x, id)
			wantUses(t, y, id, n, m)
			z := api.Exchange{Free: x.Free, In: x.In, Out: x.Out, Sessions: x.Sessions}
			wantUses(t, z, id, 0, 0)
		}
	}
	x := small()
	x.Lanes[0].Book.Sells[0].Orders[0].Left, x.Lanes[0].Owed[0].Amount = maxPrice, most
	wantUses(t, x, 2, 1, 1)
	x.Lanes[0].Owed = append(x.Lanes[0].Owed, hold(3, 0, 1), hold(3, 1, 1))
	wantUses(t, x, 2, 1, 1)
	wantUses(t, x, 3, 0, 2)
}

// P13.4: lists that are not valid are counted all the same, and so are all lanes of too many.
func TestUsesWrong(t *testing.T) {
	x := api.Exchange{Lanes: []api.Lane{
		laned(3, 3, 0, list(hold(70, 9, 1), hold(70, 9, 1), hold(-5, 1, 2)), order(1, 70, buy, 9, 1), order(1, 70, sell, 8, 0)),
		{Book: api.Book{Sells: []api.Level{{}, {Price: 3, Orders: []api.Order{order(0, 70, buy, 2, 1), order(0, -5, sell, 2, 1)}}}}},
	}}
	wantUses(t, x, 70, 3, 2)
	wantUses(t, x, -5, 1, 1)
	wantUses(t, x, 1, 0, 0)
	for _, w := range wrongLanes()[1:5] {
		y := plain()
		for n := range 10 {
			wantUses(t, y, 0, 2*n, 0)
			wantUses(t, y, 3, 2, 3)
			y.Lanes = append(y.Lanes, w)
		}
	}
}

// P13.5: a new exchange is sound, whatever its lanes are.
func TestNewSound(t *testing.T) {
	pairs := []api.Purse{}
	for base := range assets {
		for quote := range assets {
			x, err := exchange.New([]api.Purse{pair(base, quote)})
			if base == quote {
				continue
			}
			pairs = append(pairs, pair(base, quote))
			if err != api.OK {
				t.Errorf("New(%d, %d): %d", base, quote, err)
			}
			wantSound(t, x, true)
			wantBalance(t, x, figures{})
		}
	}
	for i := range pairs {
		for n := range maxLanes + 1 {
			if i+n <= len(pairs) {
				x, err := exchange.New(pairs[i : i+n])
				if err != api.OK || len(x.Lanes) != n {
					t.Errorf("New(%v) = %v, %d", pairs[i:i+n], x, err)
				}
				wantSound(t, x, true)
			}
		}
	}
}

// mixed are count numbers from 0 to below, the same ones at each call.
func mixed(count, below int) []int {
	l := make([]int, count)
	u := uint64(count)*2654435769 + uint64(below)
	for i := range l {
		u = u*6364136223846793005 + 1442695040888963407
		l[i] = int(u>>33) % below
	}
	return l
}

// scale is how many clients a run has, and how great the numbers of its commands are.
type scale struct {
	owners, prices, qtys, amounts int
}

// drawn is a command by eight numbers, in an exchange that tells which order may be cancelled by whom; one in fifty is not valid.
func drawn(x api.Exchange, p []int, s scale) api.Cmd {
	kinds := []int{deposit, deposit, deposit, withdraw, limit, limit, limit, limit, limit, ioc, ioc, cancel, collect, balance, top}
	c := api.Cmd{Kind: kinds[p[0]%len(kinds)], Client: p[1] % s.owners, Lane: p[2] % (len(x.Lanes) + 1), Asset: p[3] % assets, Side: 1 + p[4]%2, Price: 1 + p[5]%s.prices, Qty: 1 + p[6]%s.qtys}
	if c.Kind == deposit || c.Kind == withdraw {
		c.Qty = p[6] % s.amounts
	}
	if c.Kind == cancel && c.Lane < len(x.Lanes) {
		book := x.Lanes[c.Lane].Book
		orders := []api.Order{}
		for _, v := range slices.Concat(book.Buys, book.Sells) {
			orders = append(orders, v.Orders...)
		}
		if len(orders) > 0 {
			o := orders[p[3]%len(orders)]
			c.Order = o.Id
			if p[4]%4 > 0 {
				c.Client = o.Owner
			}
		}
	}
	for _, v := range x.Sessions {
		if v.Client == c.Client {
			c.Seq = v.Seq
		}
	}
	c.Seq += min(p[7]%20, 1)
	if p[7]%50 == 1 {
		c.Side = 3
	}
	return c
}

// uses are what each client uses in x, by its lists alone.
func uses(x api.Exchange) (resting, owed [accounts]int) {
	for _, l := range x.Lanes {
		for _, v := range slices.Concat(l.Book.Buys, l.Book.Sells) {
			for _, o := range v.Orders {
				resting[o.Owner]++
			}
		}
		for _, h := range l.Owed {
			owed[h.Purse.Account]++
		}
	}
	return resting, owed
}

// run executes many commands and wants x to stay sound. It tells how often each kind came to each error.
func run(t *testing.T, x api.Exchange, s scale, met map[[2]int]int) {
	for p := range slices.Chunk(mixed(8*600, 1<<30-s.owners-s.prices-s.amounts%1000-len(x.Lanes)), 8) {
		c, r := drawn(x, p, s), api.Reply{}
		x, r = exchange.Apply(x, c)
		met[[2]int{c.Kind, int(r.Code)}]++
		wantSound(t, x, true)
		wantCrossed(t, x, false)
		for asset, n := range lost(x) {
			if got := audit.Balance(x, asset); n != 0 || got != 0 {
				t.Errorf("%d of asset %d lost, and Balance says %d, behind %v: %v", n, asset, got, c, x)
			}
		}
		resting, owed := uses(x)
		for id := range accounts {
			wantUses(t, x, id, resting[id], owed[id])
		}
		if t.Failed() {
			t.FailNow()
		}
	}
}

// P13.5: an exchange stays sound, whatever commands are executed: those that come to an error, those that were executed, and those that are not valid.
func TestStaysSound(t *testing.T) {
	met := map[[2]int]int{}
	for i, pairs := range [][]api.Purse{nil, {pair(1, 0)}, {pair(2, 5), pair(5, 2), pair(7, 2)}, {pair(0, 1), pair(1, 2), pair(2, 3), pair(1, 0), pair(0, 7), pair(4, 3)}} {
		x, _ := exchange.New(pairs)
		run(t, x, scale{3 + 5*i, 12, 9, 300}, met)
		run(t, x, scale{2, 40, 60, 3000}, met)
		run(t, x, scale{64, maxPrice, maxPrice, most + 1}, met)
		rich := x
		for id := range 8 {
			for asset := range assets {
				rich, _ = exchange.Apply(rich, api.Cmd{Kind: deposit, Client: id, Seq: 1 + asset, Asset: asset, Qty: most - 20*id})
			}
		}
		run(t, rich, scale{8, 12, 9, 40}, met)
		run(t, rich, scale{8, maxPrice, maxPrice, most + 1}, met)
	}
	run(t, plain(), scale{9, 20, 9, 40}, met)
	run(t, full(), scale{64, 99, 9, 400}, met)
	// A run that seldom comes to one of them would hold nothing of it.
	for kind, errs := range [][]api.Errno{
		deposit: {api.OK, api.ErrArg, api.ErrOver}, withdraw: {api.OK, api.ErrArg, api.ErrFunds},
		limit: {api.OK, api.ErrArg, api.ErrSelf, api.ErrFull, api.ErrFunds, api.ErrOver, api.ErrNone}, ioc: {api.OK, api.ErrArg, api.ErrSelf, api.ErrFunds, api.ErrOver, api.ErrNone},
		cancel: {api.OK, api.ErrNone, api.ErrOther, api.ErrOver}, collect: {api.OK, api.ErrNothing, api.ErrOver, api.ErrNone},
		balance: {api.OK}, top: {api.OK, api.ErrNone},
	} {
		for _, err := range errs {
			if met[[2]int{kind, int(err)}] < 5 {
				t.Errorf("error %d came %d times of kind %d", err, met[[2]int{kind, int(err)}], kind)
			}
		}
	}
}

// P13.5: the zero command, commands that are not valid and those that come again leave it sound as well.
func TestStaysSoundWrong(t *testing.T) {
	for _, x := range sounds() {
		for _, n := range numbers() {
			for kind := -1; kind <= 9; kind++ {
				for _, c := range []api.Cmd{
					{Kind: kind, Client: 3, Seq: 1, Lane: n, Side: sell, Price: 1, Qty: n}, {Kind: kind, Client: n, Seq: 5, Lane: 1, Asset: n, Order: n, Side: n, Price: n, Qty: 1},
					{Kind: kind, Client: 10, Seq: n, Side: buy, Price: n, Qty: 3},
				} {
					after, _ := exchange.Run(x, []api.Cmd{c, {}, c})
					wantSound(t, after, true)
				}
			}
		}
	}
}

// roomy is x with room behind the end of each list, in which other things lie.
func roomy(x api.Exchange) api.Exchange {
	o, h := order(555, 55, 5, 55, 5), hold(55, 5, 55)
	holdings := func(l []api.Holding) []api.Holding {
		return append(slices.Clone(l), h, h, h)[:len(l)]
	}
	levels := func(l []api.Level) []api.Level {
		room := []api.Level{}
		for _, v := range l {
			room = append(room, api.Level{Price: v.Price, Orders: append(slices.Clone(v.Orders), o, o, o)[:len(v.Orders)]})
		}
		behind := api.Level{Price: 55, Orders: []api.Order{o}}
		return append(room, behind, behind)[:len(l)]
	}
	room := api.Exchange{Free: holdings(x.Free), In: holdings(x.In), Out: holdings(x.Out), Sessions: append(slices.Clone(x.Sessions), sessionOf(55, 5), sessionOf(55, 5))[:len(x.Sessions)]}
	for _, l := range x.Lanes {
		b := api.Book{Buys: levels(l.Book.Buys), Sells: levels(l.Book.Sells), Next: l.Book.Next}
		room.Lanes = append(room.Lanes, api.Lane{Base: l.Base, Quote: l.Quote, Book: b, Owed: holdings(l.Owed)})
	}
	behind := laned(5, 5, 55, list(h))
	room.Lanes = append(room.Lanes, behind, behind)[:len(x.Lanes)]
	return room
}

// behind is x, which is roomy, with what lies behind the end of each list too.
func behind(x api.Exchange) api.Exchange {
	levels := func(l []api.Level) []api.Level {
		all := slices.Clone(l[:len(l)+2])
		for i, v := range l {
			all[i].Orders = v.Orders[:len(v.Orders)+3]
		}
		return all
	}
	all := api.Exchange{Free: x.Free[:len(x.Free)+3], In: x.In[:len(x.In)+3], Out: x.Out[:len(x.Out)+3], Sessions: x.Sessions[:len(x.Sessions)+2], Lanes: slices.Clone(x.Lanes[:len(x.Lanes)+2])}
	for i, l := range x.Lanes {
		all.Lanes[i].Book.Buys, all.Lanes[i].Book.Sells, all.Lanes[i].Owed = levels(l.Book.Buys), levels(l.Book.Sells), l.Owed[:len(l.Owed)+3]
	}
	return all
}

// answers is all that the functions answer of x.
func answers(x api.Exchange) []int {
	l := []int{0, 0}
	if audit.Sound(x) {
		l[0] = 1
	}
	if audit.Crossed(x) {
		l[1] = 1
	}
	for _, n := range numbers() {
		resting, owed := audit.Uses(x, n)
		l = append(l, audit.Balance(x, n), resting, owed)
	}
	return l
}

// R3, R4: nothing that is handed in is changed, nor what is behind the end of its lists, and the answers are the same each time.
func TestUnchanged(t *testing.T) {
	crossed := api.Exchange{Lanes: []api.Lane{sided(10, 10), sided(9, 10)}}
	for _, old := range slices.Concat(sounds(), wrongs(), []api.Exchange{crossed}) {
		x, want := roomy(old), answers(old)
		for range 3 {
			if got := answers(x); !slices.Equal(got, want) {
				t.Errorf("%v, and then %v of %v", want, got, old)
			}
			if !same(x, old) || !same(behind(x), behind(roomy(old))) {
				t.Fatalf("%v is there, want %v", behind(x), behind(roomy(old)))
			}
		}
		if got := answers(copied(old)); !slices.Equal(got, want) {
			t.Errorf("%v, and then %v of a copy of %v", want, got, old)
		}
	}
}

// R1: no call panics, whatever it is given.
func TestNoPanic(t *testing.T) {
	for _, old := range slices.Concat(sounds(), wrongs()) {
		for _, n := range numbers() {
			x := copied(old)
			x.Free, x.In, x.Out = append(x.Free, hold(n, 1, n), hold(n, n, 1)), append(x.In, hold(1, n, n)), append(x.Out, hold(n, n, n))
			x.Lanes = append(x.Lanes, laned(n, 1, n, list(hold(n, n, n)), order(n, n, buy, n, n), order(n, 1, sell, n, n), order(1, n, sell, 3, n)), laned(1, n, 5, nil, order(n, 2, 1, n, 1)))
			x.Sessions = append(x.Sessions, sessionOf(n, n))
			answers(x)
			y := copied(old)
			for i := range y.Lanes {
				y.Lanes[i].Base, y.Lanes[i].Book.Next = n, n
				y.Lanes[i].Book.Buys = append(y.Lanes[i].Book.Buys, api.Level{Price: n})
			}
			answers(y)
		}
	}
}

// R1: a call ends soon for very many orders, holdings, lanes and sessions too.
func TestVeryMany(t *testing.T) {
	x := api.Exchange{Lanes: []api.Lane{laned(1, 2, maxId, nil)}}
	b := &x.Lanes[0].Book
	for id := 1; id <= 100000; id++ {
		b.Sells = append(b.Sells, api.Level{Price: 1 + id, Orders: []api.Order{order(id, id%accounts, sell, 1+id, 1)}})
		x.Free = append(x.Free, hold(id, 1, 1))
		x.Lanes[0].Owed = append(x.Lanes[0].Owed, hold(3, 1, id))
		x.Sessions = append(x.Sessions, sessionOf(id, 1))
	}
	wantSound(t, x, false)
	wantCrossed(t, x, false)
	wantBalance(t, x, figures{})
	wantUses(t, x, 3, 1563, 100000)
	x = api.Exchange{}
	for range 10000 {
		x.Lanes = append(x.Lanes, sided(5, 6))
	}
	wantSound(t, x, false)
	wantCrossed(t, x, false)
	wantBalance(t, x, figures{1: -90000, 2: -500000})
	wantUses(t, x, 4, 30000, 0)
}
