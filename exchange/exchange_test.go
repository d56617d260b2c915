package exchange_test

import (
	"math"
	"slices"
	"testing"

	"cambist/account"
	"cambist/api"
	"cambist/command"
	"cambist/exchange"
	"cambist/lane"
)

// The limits and the kinds, by the chapter's own figures and those of the lists of limits and kinds.
const (
	most      = 1125899906842624
	maxPrice  = 1048576
	maxId     = 1073741824
	accounts  = 64
	assets    = 8
	maxLanes  = 6
	maxOrders = 40
	buy, sell = 1, 2
	deposit   = 1
	withdraw  = 2
	limit     = 3
	ioc       = 4
	cancel    = 5
	collect   = 6
	balance   = 7
	top       = 8
)

// numbers are ints of all sorts: the least and the greatest ones, and those about each limit.
func numbers() []int {
	return []int{math.MinInt, math.MinInt + 1, math.MinInt32, -most, -8, -2, -1, 0, 1, 2, 3, 5, 6, 7, 8, 9, 39, 40, 41, 63, 64, 65, 255, maxPrice, maxPrice + 1, maxId, maxId + 1, most, most + 1, math.MaxInt - 1, math.MaxInt}
}

func isAsset(n int) bool {
	return n >= 0 && n < assets
}

func order(id, owner, side, price, left int) api.Order {
	return api.Order{Id: id, Owner: owner, Side: side, Price: price, Left: left}
}

func purse(account, asset int) api.Purse {
	return api.Purse{Account: account, Asset: asset}
}

func hold(account, asset, amount int) api.Holding {
	return api.Holding{Purse: purse(account, asset), Amount: amount}
}

func list(l ...api.Holding) []api.Holding {
	return l
}

func reply(client, seq int, code api.Errno, a, b int) api.Reply {
	return api.Reply{Client: client, Seq: seq, Code: code, A: a, B: b}
}

// of is the session with that reply.
func of(r api.Reply) api.Session {
	return api.Session{Client: r.Client, Seq: r.Seq, Reply: r}
}

// onPurse is a command of one of the kinds that work on a purse.
func onPurse(kind, client, seq, asset, qty int) api.Cmd {
	return api.Cmd{Kind: kind, Client: client, Seq: seq, Asset: asset, Qty: qty}
}

// inLane is a command of one of the kinds that work on a lane and need nothing else.
func inLane(kind, client, seq, lane int) api.Cmd {
	return api.Cmd{Kind: kind, Client: client, Seq: seq, Lane: lane}
}

// trade is a CmdLimit or a CmdIoc.
func trade(kind, client, seq, lane, side, price, qty int) api.Cmd {
	return api.Cmd{Kind: kind, Client: client, Seq: seq, Lane: lane, Side: side, Price: price, Qty: qty}
}

func cancelOf(client, seq, lane, id int) api.Cmd {
	return api.Cmd{Kind: cancel, Client: client, Seq: seq, Lane: lane, Order: id}
}

// sortedSide is the orders of one side, which are told in the order of their arrival, as levels.
func sortedSide(side int, arrived []api.Order) []api.Level {
	l := []api.Level{}
	for _, o := range arrived {
		if o.Side != side {
			continue
		}
		i := 0
		for i < len(l) && (side == buy && l[i].Price > o.Price || side == sell && l[i].Price < o.Price) {
			i++
		}
		if i == len(l) || l[i].Price != o.Price {
			l = slices.Insert(l, i, api.Level{Price: o.Price})
		}
		l[i].Orders = append(l[i].Orders, o)
	}
	return l
}

// booked is the book of orders that are told in the order of their arrival.
func booked(next int, arrived ...api.Order) api.Book {
	return api.Book{Buys: sortedSide(buy, arrived), Sells: sortedSide(sell, arrived), Next: next}
}

func laned(base, quote, next int, owed []api.Holding, arrived ...api.Order) api.Lane {
	return api.Lane{Base: base, Quote: quote, Book: booked(next, arrived...), Owed: owed}
}

// crowd is 40 orders from Id 100 on, of several owners, on both sides.
func crowd() []api.Order {
	l := []api.Order{}
	for i := range 20 {
		l = append(l, order(100+i, i%3, buy, 50-i/2, 3), order(200+i, 3+i%3, sell, 60+i/2, 3))
	}
	return l
}

// plain is an exchange of three lanes and several clients.
func plain() api.Exchange {
	return api.Exchange{
		Free: list(hold(1, 1, 50), hold(1, 2, 1000), hold(2, 1, 40), hold(2, 2, 900), hold(3, 0, 5), hold(5, 7, most), hold(63, 1, most-3)),
		Lanes: []api.Lane{
			laned(1, 2, 20, list(hold(2, 2, 8), hold(3, 1, 6), hold(3, 2, 80), hold(63, 1, 4)),
				order(9, 3, buy, 9, 4), order(3, 4, buy, 10, 5), order(7, 5, buy, 7, 1), order(4, 6, buy, 10, 6),
				order(8, 7, sell, 12, 4), order(2, 3, sell, 14, 5), order(13, 8, sell, 12, 1), order(5, 63, sell, 15, 4)),
			laned(0, 7, 1, nil),
			laned(2, 1, 7, list(hold(3, 2, 9)), order(2, 2, buy, 3, 4), order(6, 1, sell, 8, 2)),
		},
		Sessions: []api.Session{of(reply(1, 4, api.OK, 1000, 0)), of(reply(2, most, api.ErrFunds, 0, 0)), of(reply(5, 9, api.OK, 12, 34)), of(reply(63, 1, api.ErrNone, -1, 77))},
		In:       list(hold(0, 0, 3), hold(1, 2, 2000), hold(2, 1, 99), hold(5, 7, most)),
		Out:      list(hold(1, 1, 6), hold(1, 2, most-10), hold(9, 0, 4)),
	}
}

// full is an exchange with as much of all as can be.
func full() api.Exchange {
	x := api.Exchange{}
	for id := range accounts {
		for asset := range assets {
			x.Free = append(x.Free, hold(id, asset, most))
		}
		x.Sessions = append(x.Sessions, of(reply(id, most-id, api.ErrOver, id, -id)))
	}
	x.In, x.Out = slices.Clone(x.Free), slices.Clone(x.Free)
	for i := range maxLanes {
		owed := slices.DeleteFunc(slices.Clone(x.Free), func(h api.Holding) bool { return h.Purse.Asset != i && h.Purse.Asset != i+1 })
		x.Lanes = append(x.Lanes, laned(i+1, i, maxId, owed, crowd()...))
	}
	return x
}

// crowded is an exchange of two lanes in which no order can rest any more, of the one as its book has as many as can be, and of the other as its book has used up all Ids.
func crowded() api.Exchange {
	x := api.Exchange{Lanes: []api.Lane{laned(1, 2, 1000, nil, crowd()...), laned(2, 1, maxId, list(hold(1, 2, most), hold(3, 1, most)), crowd()[:9]...)}}
	for id := range 30 {
		x.Free = append(x.Free, hold(id, 1, 1+400*id), hold(id, 2, 1<<40))
	}
	return x
}

// rights are valid exchanges of all sorts.
func rights() []api.Exchange {
	return []api.Exchange{
		{}, plain(), crowded(), full(),
		{Lanes: []api.Lane{laned(0, 1, 1, nil)}},
		{Free: list(hold(0, 0, 1))}, {In: list(hold(63, 7, most))}, {Out: list(hold(1, 7, 2), hold(2, 0, 1))},
		{Sessions: []api.Session{of(reply(0, 1, 0, 0, 0))}},
	}
}

// wrongs are exchanges that are not valid, each for one reason.
func wrongs() []api.Exchange {
	l := []api.Exchange{{Lanes: make([]api.Lane, 1)}, {Lanes: make([]api.Lane, 7)}}
	seven := full()
	seven.Lanes = append(seven.Lanes, seven.Lanes[0])
	l = append(l, seven)
	for _, w := range wrongLanes() {
		for i := range 4 {
			x := plain()
			x.Lanes = slices.Insert(x.Lanes, i, w)
			l = append(l, x)
		}
	}
	for _, w := range wrongHoldings() {
		free, in, out := plain(), plain(), plain()
		free.Free, in.In, out.Out = w, w, w
		l = append(l, free, in, out)
	}
	for _, w := range wrongSessions() {
		x := plain()
		x.Sessions = w
		l = append(l, x)
	}
	return l
}

// wrongLanes are lanes that are not valid, each for one reason.
func wrongLanes() []api.Lane {
	b, s := order(1, 0, buy, 9, 1), order(2, 0, sell, 10, 1)
	return []api.Lane{
		{}, laned(3, 3, 3, nil, b, s), laned(-1, 3, 3, nil, b, s), laned(3, 8, 3, nil, b, s), laned(1, 2, 2, nil, b, s), laned(1, 2, 0, nil), laned(1, 2, maxId+1, nil),
		laned(1, 2, 9, nil, b, order(2, 0, sell, 9, 1)), laned(1, 2, 9, nil, order(1, 64, buy, 9, 1)), laned(1, 2, 3, list(hold(1, 3, 5)), b, s), laned(1, 2, 3, list(hold(1, 1, 0)), b, s),
		laned(1, 2, 300, nil, append(crowd(), order(7, 9, sell, 90, 1))...),
		{Base: 1, Quote: 2, Book: api.Book{Next: 1, Buys: make([]api.Level, 1)}},
	}
}

// wrongHoldings are lists of holdings that are not valid, each for one reason.
func wrongHoldings() [][]api.Holding {
	return [][]api.Holding{
		{{}}, list(hold(1, 1, -1)), list(hold(1, 2, most+1)), list(hold(64, 1, 5)), list(hold(-1, 2, 5)), list(hold(1, 8, 5)), list(hold(1, -1, 5)),
		list(hold(1, 1, 5), hold(1, 1, 5)), list(hold(1, 2, 5), hold(1, 1, 5)), list(hold(2, 1, 5), hold(1, 2, 5)), list(hold(1, 1, 5), hold(2, 2, 5), hold(2, 2, 6)),
	}
}

// wrongSessions are lists of sessions that are not valid, each for one reason.
func wrongSessions() [][]api.Session {
	a, b := of(reply(3, 5, 0, 1, 2)), of(reply(4, 5, 0, 1, 2))
	other, early := a, a
	other.Reply.Client, early.Reply.Seq = 4, 4
	return [][]api.Session{{{}}, {b, a}, {a, a}, {other}, {early}, {a, of(reply(64, 5, 0, 1, 2))}, {of(reply(-1, 5, 0, 1, 2)), a}, {of(reply(3, 0, 0, 1, 2))}, {of(reply(3, most+1, 0, 1, 2))}}
}

// copied is x in memory of its own, list by list.
func copied(x api.Exchange) api.Exchange {
	levels := func(l []api.Level) []api.Level {
		own := []api.Level{}
		for _, v := range l {
			own = append(own, api.Level{Price: v.Price, Orders: append([]api.Order{}, v.Orders...)})
		}
		return own
	}
	own := api.Exchange{
		Free: append([]api.Holding{}, x.Free...), Sessions: append([]api.Session{}, x.Sessions...),
		In: append([]api.Holding{}, x.In...), Out: append([]api.Holding{}, x.Out...),
	}
	for _, l := range x.Lanes {
		b := api.Book{Buys: levels(l.Book.Buys), Sells: levels(l.Book.Sells), Next: l.Book.Next}
		own.Lanes = append(own.Lanes, api.Lane{Base: l.Base, Quote: l.Quote, Book: b, Owed: append([]api.Holding{}, l.Owed...)})
	}
	return own
}

// sameLane tells whether a and b hold the same, level by level, of which nil and empty lists are alike.
func sameLane(a, b api.Lane) bool {
	equal := func(v, w api.Level) bool { return v.Price == w.Price && slices.Equal(v.Orders, w.Orders) }
	return a.Base == b.Base && a.Quote == b.Quote && a.Book.Next == b.Book.Next &&
		slices.EqualFunc(a.Book.Buys, b.Book.Buys, equal) && slices.EqualFunc(a.Book.Sells, b.Book.Sells, equal) &&
		slices.Equal(a.Owed, b.Owed)
}

// same tells whether a and b hold the same, in the same levels.
func same(a, b api.Exchange) bool {
	return slices.Equal(a.Free, b.Free) && slices.EqualFunc(a.Lanes, b.Lanes, sameLane) &&
		slices.Equal(a.Sessions, b.Sessions) && slices.Equal(a.In, b.In) && slices.Equal(a.Out, b.Out)
}

// noted is x with r as its client's last reply.
func noted(x api.Exchange, r api.Reply) api.Exchange {
	x = copied(x)
	x.Sessions = slices.DeleteFunc(x.Sessions, func(s api.Session) bool { return s.Client == r.Client })
	i := 0
	for i < len(x.Sessions) && x.Sessions[i].Client < r.Client {
		i++
	}
	x.Sessions = slices.Insert(x.Sessions, i, of(r))
	return x
}

func wantApply(t *testing.T, x api.Exchange, c api.Cmd, want api.Exchange, wantReply api.Reply) {
	t.Helper()
	before := copied(x)
	if got, r := exchange.Apply(x, c); !same(got, want) || r != wantReply || !same(x, before) {
		t.Errorf("Apply(%v, %v) = %v, %v, want %v, %v", before, c, got, r, want, wantReply)
	}
}

// wantDone wants Apply to answer after, in which the reply with a and b is noted, and tells that.
func wantDone(t *testing.T, x api.Exchange, c api.Cmd, after api.Exchange, a, b int) api.Exchange {
	t.Helper()
	r := reply(c.Client, c.Seq, api.OK, a, b)
	want := noted(after, r)
	wantApply(t, x, c, want, r)
	return want
}

// wantFails wants Apply to answer the error, and x with nothing changed but that the reply is noted.
func wantFails(t *testing.T, x api.Exchange, c api.Cmd, err api.Errno) api.Exchange {
	t.Helper()
	r := reply(c.Client, c.Seq, err, 0, 0)
	want := noted(x, r)
	wantApply(t, x, c, want, r)
	return want
}

// wantRefused wants Apply to answer the error, and x with nothing changed at all.
func wantRefused(t *testing.T, x api.Exchange, c api.Cmd, err api.Errno) {
	t.Helper()
	wantApply(t, x, c, copied(x), reply(c.Client, c.Seq, err, 0, 0))
}

func wantRight(t *testing.T, x api.Exchange, want bool) {
	t.Helper()
	if got := exchange.Right(x); got != want {
		t.Errorf("Right(%v) = %t, want %t", x, got, want)
	}
}

func wantSame(t *testing.T, a, b api.Exchange, want bool) {
	t.Helper()
	if got, back := exchange.Same(a, b), exchange.Same(b, a); got != want || back != want {
		t.Errorf("Same(%v, %v) = %t, and %t the other way round, want %t", a, b, got, back, want)
	}
}

// P12.1, P12.3: the limits, kinds and sides are the document's.
func TestLimits(t *testing.T) {
	got := []int{api.MaxLanes, api.MaxAmount, api.MaxAssets, api.MaxAccounts, api.MaxPrice, api.MaxBallot, api.MaxOrders, api.Buy, api.Sell, api.CmdNone, api.CmdDeposit, api.CmdWithdraw, api.CmdLimit, api.CmdIoc, api.CmdCancel, api.CmdCollect, api.CmdBalance, api.CmdTop}
	want := []int{maxLanes, most, assets, accounts, maxPrice, maxId, maxOrders, buy, sell, 0, deposit, withdraw, limit, ioc, cancel, collect, balance, top}
	if !slices.Equal(got, want) {
		t.Fatalf("%v, want %v", got, want)
	}
}

// wantNew wants New to answer an exchange of such lanes, or the error.
func wantNew(t *testing.T, l []api.Purse, err api.Errno) {
	t.Helper()
	want, before := api.Exchange{}, slices.Clone(l)
	for _, p := range l {
		want.Lanes = append(want.Lanes, laned(p.Account, p.Asset, 1, nil))
	}
	if err != api.OK {
		want = api.Exchange{}
	}
	got, gotErr := exchange.New(l)
	if !same(got, want) || gotErr != err || !slices.Equal(l, before) {
		t.Errorf("New(%v) = %v, %d, want %v, %d", before, got, gotErr, want, err)
	}
	wantRight(t, got, true)
}

// P12.1: up to six lanes, each of its pair of assets, and nothing else.
func TestNew(t *testing.T) {
	wantNew(t, nil, api.OK)
	wantNew(t, []api.Purse{}, api.OK)
	wantNew(t, []api.Purse{purse(1, 0)}, api.OK)
	wantNew(t, []api.Purse{purse(1, 1)}, api.ErrArg)
	wantNew(t, []api.Purse{purse(1, 2), purse(2, 1), purse(1, 2)}, api.OK)
	l := []api.Purse{purse(1, 0), purse(0, 7), purse(6, 5), purse(1, 0), purse(0, 1), purse(7, 0), purse(2, 3), purse(4, 5), purse(5, 4)}
	for n := range len(l) + 1 {
		if n <= maxLanes {
			wantNew(t, l[:n], api.OK)
		} else {
			wantNew(t, l[:n], api.ErrLong)
		}
	}
}

// P12.1: one pair that is none of two assets is enough, wherever it is; but too many pairs are too many first.
func TestNewWrong(t *testing.T) {
	good := []api.Purse{purse(1, 0), purse(0, 7), purse(6, 5), purse(1, 0), purse(0, 1)}
	for _, base := range numbers() {
		for _, quote := range numbers() {
			for i := range len(good) + 1 {
				l := slices.Insert(slices.Clone(good), i, purse(base, quote))
				err := api.ErrArg
				if isAsset(base) && isAsset(quote) && base != quote {
					err = api.OK
				}
				wantNew(t, l, err)
				wantNew(t, append(l, purse(3, 4)), api.ErrLong)
			}
		}
	}
	wantNew(t, make([]api.Purse, 6), api.ErrArg)
	wantNew(t, make([]api.Purse, 7), api.ErrLong)
}

// P12.2: which exchanges are valid, and which are not.
func TestRight(t *testing.T) {
	for _, x := range rights() {
		wantRight(t, x, true)
	}
	for _, x := range wrongs() {
		wantRight(t, x, false)
	}
	for n := range 10 {
		x := api.Exchange{}
		for range n {
			x.Lanes = append(x.Lanes, laned(1, 2, 1, nil))
		}
		wantRight(t, x, n <= maxLanes)
	}
}

// P12.3: the chapter's examples.
func TestApplyExamples(t *testing.T) {
	x, _ := exchange.New([]api.Purse{purse(1, 0)})
	after := copied(x)
	after.Free, after.In = list(hold(1, 0, 100)), list(hold(1, 0, 100))
	x = wantDone(t, x, onPurse(deposit, 1, 1, 0, 100), after, 100, 0)
	after = copied(x)
	after.Free, after.In = list(hold(1, 0, 100), hold(2, 1, 9)), list(hold(1, 0, 100), hold(2, 1, 9))
	x = wantDone(t, x, onPurse(deposit, 2, 1, 1, 9), after, 9, 0)
	after = copied(x)
	after.Free, after.Lanes[0] = list(hold(1, 0, 100), hold(2, 1, 4)), laned(1, 0, 2, nil, order(1, 2, sell, 10, 5))
	x = wantDone(t, x, trade(limit, 2, 2, 0, sell, 10, 5), after, 1, 0)
	after = copied(x)
	after.Free, after.Lanes[0] = list(hold(1, 0, 50), hold(1, 1, 5), hold(2, 1, 4)), laned(1, 0, 2, list(hold(2, 0, 50)))
	c := trade(ioc, 1, 2, 0, buy, 11, 7)
	x = wantDone(t, x, c, after, 0, 5)
	wantApply(t, x, c, copied(x), reply(1, 2, api.OK, 0, 5))
	wantRefused(t, x, inLane(top, 1, 1, 0), api.ErrOld)
	after = copied(x)
	after.Free, after.Lanes[0] = list(hold(1, 0, 50), hold(1, 1, 5), hold(2, 0, 50), hold(2, 1, 4)), laned(1, 0, 2, nil)
	wantDone(t, x, inLane(collect, 2, 3, 0), after, 0, 50)

	y, _ := exchange.New([]api.Purse{purse(1, 2)})
	y, r := exchange.Run(y, []api.Cmd{onPurse(deposit, 1, 1, 2, 100), trade(limit, 1, 2, 0, buy, 10, 5), trade(limit, 1, 2, 0, buy, 10, 5)})
	if r[1] != reply(1, 2, api.OK, 1, 0) || r[2] != r[1] || !slices.Equal(y.Free, list(hold(1, 2, 50))) {
		t.Errorf("%v, %v", y, r)
	}
}

// someCmds are valid commands of all kinds.
func someCmds(client, seq int) []api.Cmd {
	return []api.Cmd{
		onPurse(deposit, client, seq, 1, 3), onPurse(withdraw, client, seq, 2, 4), onPurse(balance, client, seq, 7, 0),
		trade(limit, client, seq, 0, buy, 3, 2), trade(limit, client, seq, 2, sell, 8, 1), trade(ioc, client, seq, 0, buy, 14, 3), trade(ioc, client, seq, 1, sell, 1, 1),
		cancelOf(client, seq, 0, 9), cancelOf(client, seq, 2, 6), inLane(collect, client, seq, 0), inLane(collect, client, seq, 2), inLane(top, client, seq, 0), inLane(top, client, seq, 5),
	}
}

// wrongCmds are commands that are not valid, each for one reason.
func wrongCmds() []api.Cmd {
	l := []api.Cmd{{Client: 3}, {Seq: 1}, {Seq: 1, Client: 3, Qty: 4}, {Asset: 1}, {Lane: 1}, {Kind: top}, {Qty: 1}}
	for _, c := range someCmds(3, 5) {
		for _, kind := range []int{-1, 0, 9, math.MinInt, math.MaxInt} {
			d := c
			d.Kind = kind
			l = append(l, d)
		}
		for _, change := range []func(*api.Cmd){
			func(c *api.Cmd) { c.Client = 64 }, func(c *api.Cmd) { c.Client = -1 }, func(c *api.Cmd) { c.Seq = 0 }, func(c *api.Cmd) { c.Seq = most + 1 },
			func(c *api.Cmd) { c.Lane = 6 }, func(c *api.Cmd) { c.Lane = -1 }, func(c *api.Cmd) { c.Asset = 8 }, func(c *api.Cmd) { c.Asset = -1 },
			func(c *api.Cmd) { c.Order = maxId + 1 }, func(c *api.Cmd) { c.Order = -1 }, func(c *api.Cmd) { c.Side = 3 }, func(c *api.Cmd) { c.Side = -1 },
			func(c *api.Cmd) { c.Price = most + 1 }, func(c *api.Cmd) { c.Price = -1 }, func(c *api.Cmd) { c.Qty = most + 1 }, func(c *api.Cmd) { c.Qty = -1 },
		} {
			d := c
			change(&d)
			l = append(l, d)
		}
	}
	return l
}

// P12.3: in an exchange that is not valid nothing is executed, not even the zero command or one that was.
func TestApplyWrongExchange(t *testing.T) {
	for _, x := range wrongs() {
		wantRefused(t, x, api.Cmd{}, api.ErrArg)
		for _, c := range slices.Concat(someCmds(3, 5), someCmds(1, 4), someCmds(2, 3), someCmds(64, 1)) {
			wantRefused(t, x, c, api.ErrArg)
		}
	}
}

// P12.3: nor is a command that is not valid, and its reply is not noted.
func TestApplyWrongCommand(t *testing.T) {
	for _, x := range rights() {
		for _, c := range wrongCmds() {
			wantRefused(t, x, c, api.ErrArg)
		}
	}
	// Not even one of the client's last Seq, or of an old one.
	c := onPurse(deposit, 1, 4, 1, most+1)
	wantRefused(t, plain(), c, api.ErrArg)
	c.Seq = 3
	wantRefused(t, plain(), c, api.ErrArg)
	wantRefused(t, plain(), api.Cmd{Client: 1, Seq: 4}, api.ErrArg)
}

// P12.3: the zero command changes nothing, as often as it comes, and its reply is the zero one.
func TestApplyZero(t *testing.T) {
	for _, x := range rights() {
		wantApply(t, x, api.Cmd{}, copied(x), api.Reply{})
	}
	x := api.Exchange{Sessions: []api.Session{of(reply(0, 3, api.ErrFunds, 1, 2))}}
	wantApply(t, x, api.Cmd{}, copied(x), api.Reply{})
}

// P12.3, P12.7: a client's last command has its reply again, whatever it is now, and nothing changes.
func TestApplyAgain(t *testing.T) {
	for _, x := range rights() {
		for _, s := range x.Sessions {
			for _, c := range someCmds(s.Client, s.Seq) {
				wantApply(t, x, c, copied(x), s.Reply)
			}
		}
	}
}

// P12.3: an earlier command of the client is old, whatever it is, and nothing changes.
func TestApplyOld(t *testing.T) {
	for _, x := range rights() {
		for _, s := range x.Sessions {
			for _, seq := range []int{1, 2, s.Seq - 2, s.Seq - 1} {
				for _, c := range someCmds(s.Client, seq) {
					if seq >= 1 && seq < s.Seq {
						wantRefused(t, x, c, api.ErrOld)
					}
				}
			}
		}
	}
}

// P12.3: how much later the command is doesn't matter, nor whether the client had one.
func TestApplyLater(t *testing.T) {
	for _, seq := range []int{5, 6, 1000, most - 1, most} {
		wantDone(t, plain(), onPurse(balance, 1, seq, 2, 0), plain(), 1000, 0)
	}
	for _, seq := range []int{1, 2, 1000, most} {
		wantDone(t, plain(), onPurse(balance, 3, seq, 0, 0), plain(), 5, 0)
		wantDone(t, api.Exchange{}, onPurse(balance, 0, seq, 0, 0), api.Exchange{}, 0, 0)
		wantFails(t, api.Exchange{}, inLane(top, 63, seq, 0), api.ErrNone)
	}
	// Other clients' Seqs are theirs alone.
	x := plain()
	for id := range 5 {
		c := onPurse(balance, 10+id, 6-id, 1, 0)
		x = wantDone(t, x, c, x, 0, 0)
		wantApply(t, x, c, copied(x), reply(10+id, 6-id, api.OK, 0, 0))
	}
}

// given is l with n in the purse p.
func given(l []api.Holding, p api.Purse, n int) []api.Holding {
	t := tabled(l)
	t[p.Account][p.Asset] = n
	return t.holdings()
}

// P12.3: a deposit is free, and counts as come in; A is what is free of it then.
func TestDeposit(t *testing.T) {
	for _, x := range rights() {
		for _, p := range []api.Purse{purse(0, 0), purse(1, 1), purse(1, 2), purse(2, 1), purse(3, 0), purse(5, 7), purse(63, 1), purse(63, 7)} {
			in, free := account.Get(x.In, p), account.Get(x.Free, p)
			seq := lastSeq(x, p.Account) + 1
			if seq > most {
				continue
			}
			for _, n := range []int{1, 2, 77, most - in, most - free, most - in + 1, most - free + 1, most} {
				c := onPurse(deposit, p.Account, seq, p.Asset, n)
				switch {
				case n == 0:
					wantFails(t, x, c, api.ErrArg)
				case n > most:
					wantRefused(t, x, c, api.ErrArg)
				case in+n > most || free+n > most:
					wantFails(t, x, c, api.ErrOver)
				default:
					after := copied(x)
					after.In, after.Free = given(x.In, p, in+n), given(x.Free, p, free+n)
					wantDone(t, x, c, after, free+n, 0)
				}
			}
		}
	}
}

// lastSeq is the Seq of a client's last command.
func lastSeq(x api.Exchange, client int) int {
	for _, s := range x.Sessions {
		if s.Client == client {
			return s.Seq
		}
	}
	return 0
}

// P12.3: a withdrawal is taken from what is free, and counts as gone out; A is what is free of it then.
func TestWithdraw(t *testing.T) {
	for _, x := range rights() {
		for _, p := range []api.Purse{purse(0, 0), purse(1, 1), purse(1, 2), purse(2, 1), purse(3, 0), purse(5, 7), purse(63, 1), purse(63, 7)} {
			out, free := account.Get(x.Out, p), account.Get(x.Free, p)
			seq := lastSeq(x, p.Account) + 1
			if seq > most {
				continue
			}
			for _, n := range []int{1, 2, 9, 10, 11, free - 1, free, free + 1, most - out, most - out + 1, most} {
				c := onPurse(withdraw, p.Account, seq, p.Asset, n)
				switch {
				case n < 0 || n > most:
					wantRefused(t, x, c, api.ErrArg)
				case n == 0:
					wantFails(t, x, c, api.ErrArg)
				case n > free:
					wantFails(t, x, c, api.ErrFunds)
				case out+n > most:
					wantFails(t, x, c, api.ErrOver)
				default:
					after := copied(x)
					after.Out, after.Free = given(x.Out, p, out+n), given(x.Free, p, free-n)
					wantDone(t, x, c, after, free-n, 0)
				}
			}
		}
	}
}

// P12.3: nothing can be neither deposited nor withdrawn, of whatever purse.
func TestNothing(t *testing.T) {
	for id := range accounts {
		for asset := range assets {
			for _, kind := range []int{deposit, withdraw} {
				x := plain()
				x.Sessions = nil
				wantFails(t, x, onPurse(kind, id, 1, asset, 0), api.ErrArg)
				wantFails(t, api.Exchange{}, onPurse(kind, id, 1, asset, 0), api.ErrArg)
			}
		}
	}
}

// P12.3: a balance is told, and nothing but the session changes, whatever the other numbers of the command are.
func TestBalance(t *testing.T) {
	x := plain()
	x.Sessions = nil
	free := tabled(x.Free)
	for id := range accounts {
		for asset := range assets {
			for _, n := range []int{0, 1, 5, most} {
				c := onPurse(balance, id, 1, asset, n)
				c.Lane, c.Order, c.Side, c.Price = n%6, n%7, n%3, n
				wantDone(t, x, c, x, free[id][asset], 0)
			}
		}
	}
	for _, asset := range []int{0, 7} {
		wantDone(t, full(), onPurse(balance, 3, most, asset, 9), full(), most, 0)
	}
}

// P12.3: the numbers that a kind doesn't need are not looked at.
func TestOtherNumbers(t *testing.T) {
	x := plain()
	for _, c := range someCmds(3, 5) {
		want, r := exchange.Apply(x, c)
		d := c
		if c.Kind == deposit || c.Kind == withdraw || c.Kind == balance {
			d.Lane, d.Order, d.Side, d.Price = 5, maxId, sell, most
		} else {
			d.Asset = 7
		}
		if c.Kind == limit || c.Kind == ioc {
			d.Order = 9
		} else if c.Kind >= cancel && c.Kind != balance {
			d.Side, d.Price, d.Qty = buy, most, most
		}
		if c.Kind == collect || c.Kind == top {
			d.Order = 2
		}
		wantApply(t, x, d, want, r)
	}
}

// P12.3: there is no lane of a number from the number of lanes on, and no other error is ahead of that.
func TestNoLane(t *testing.T) {
	l := []api.Purse{purse(1, 0), purse(0, 7), purse(6, 5), purse(1, 0), purse(0, 1), purse(7, 0)}
	for count := range len(l) + 1 {
		x, _ := exchange.New(l[:count])
		for number := range maxLanes {
			if number < count {
				wantDone(t, x, inLane(top, 3, 1, number), x, 0, 0)
				continue
			}
			for kind := limit; kind <= top; kind++ {
				if kind == balance {
					continue
				}
				wantFails(t, x, inLane(kind, 3, 1, number), api.ErrNone)
				wantFails(t, x, api.Cmd{Kind: kind, Client: 3, Seq: 9, Lane: number, Side: sell, Price: 1, Qty: 1, Order: 1}, api.ErrNone)
			}
		}
	}
}

// P12.3: CmdLimit and CmdIoc place orders in their lane as lane.Place does, and let what is left rest or not.
func TestPlace(t *testing.T) {
	codes := map[api.Errno]int{}
	for _, x := range []api.Exchange{plain(), crowded()} {
		for number, l := range x.Lanes {
			for _, id := range []int{1, 2, 3, 9, 63} {
				seq := lastSeq(x, id) + 1
				if seq > most {
					continue
				}
				for _, price := range []int{0, 1, 3, 9, 12, 14, 55, 61, maxPrice, maxPrice + 1} {
					for _, qty := range []int{0, 1, 5, 30, maxPrice, maxPrice + 1} {
						for side := range 3 {
							for _, kind := range []int{limit, ioc} {
								c := trade(kind, id, seq, number, side, price, qty)
								placed, free, fills, rests, err := lane.Place(l, x.Free, id, side, price, qty, kind == limit)
								codes[err]++
								if err != api.OK {
									wantFails(t, x, c, err)
									continue
								}
								after, traded := copied(x), 0
								after.Lanes[number], after.Free = placed, free
								for _, f := range fills {
									traded += f.Qty
								}
								wantDone(t, x, c, after, rests, traded)
							}
						}
					}
				}
			}
		}
	}
	for _, err := range []api.Errno{api.OK, api.ErrArg, api.ErrSelf, api.ErrFull, api.ErrFunds, api.ErrOver} {
		if codes[err] < 10 {
			t.Errorf("error %d came %d times", err, codes[err])
		}
	}
}

// P12.3: A is the order that rests, B the quantity of all fills.
func TestPlaceReplies(t *testing.T) {
	x := plain()
	after := copied(x)
	after.Lanes[0] = laned(1, 2, 21, list(hold(2, 2, 8), hold(3, 1, 6), hold(3, 2, 80), hold(7, 2, 48), hold(8, 2, 12), hold(63, 1, 4)),
		order(9, 3, buy, 9, 4), order(3, 4, buy, 10, 5), order(7, 5, buy, 7, 1), order(4, 6, buy, 10, 6), order(20, 1, buy, 13, 2), order(2, 3, sell, 14, 5), order(5, 63, sell, 15, 4))
	after.Free = given(given(x.Free, purse(1, 2), 1000-60-26), purse(1, 1), 55)
	wantDone(t, x, trade(limit, 1, 5, 0, buy, 13, 7), after, 20, 5)
	after.Lanes[0].Book = booked(20, order(9, 3, buy, 9, 4), order(3, 4, buy, 10, 5), order(7, 5, buy, 7, 1), order(4, 6, buy, 10, 6), order(2, 3, sell, 14, 5), order(5, 63, sell, 15, 4))
	after.Free = given(after.Free, purse(1, 2), 1000-60)
	wantDone(t, x, trade(ioc, 1, 5, 0, buy, 13, 7), after, 0, 5)
	// All of it is traded: nothing rests of the one nor of the other.
	wantDone(t, x, trade(ioc, 1, 5, 0, buy, 12, 5), after, 0, 5)
	wantDone(t, x, trade(limit, 1, 5, 0, buy, 12, 5), after, 0, 5)
	// None of it is traded.
	wantDone(t, x, trade(ioc, 1, 5, 0, buy, 11, 7), x, 0, 0)
	after = copied(x)
	after.Lanes[1], after.Free = laned(0, 7, 2, nil, order(1, 3, sell, 4, 3)), given(x.Free, purse(3, 0), 2)
	wantDone(t, x, trade(limit, 3, 1, 1, sell, 4, 3), after, 1, 0)
}

// P12.3: CmdCancel cancels as lane.Cancel does, and A is what was released.
func TestCancel(t *testing.T) {
	for _, x := range []api.Exchange{plain(), crowded()} {
		for number, l := range x.Lanes {
			for id := range 230 {
				for _, owner := range []int{1, 3, 4, 7, 63} {
					seq := lastSeq(x, owner) + 1
					if seq > most {
						continue
					}
					c := cancelOf(owner, seq, number, id)
					left, free, released, err := lane.Cancel(l, x.Free, owner, id)
					if err != api.OK {
						wantFails(t, x, c, err)
						continue
					}
					after := copied(x)
					after.Lanes[number], after.Free = left, free
					wantDone(t, x, c, after, released, 0)
				}
			}
		}
	}
	x := plain()
	wantFails(t, x, cancelOf(3, 1, 0, 0), api.ErrNone)
	wantFails(t, x, cancelOf(3, 1, 1, 9), api.ErrNone)
	wantFails(t, x, cancelOf(3, 1, 0, maxId), api.ErrNone)
	wantFails(t, x, cancelOf(4, 1, 0, 9), api.ErrOther)
	wantFails(t, x, cancelOf(63, 2, 0, 5), api.ErrOver)
	after := copied(x)
	after.Lanes[0].Book.Buys = sortedSide(buy, []api.Order{order(3, 4, buy, 10, 5), order(7, 5, buy, 7, 1), order(4, 6, buy, 10, 6)})
	after.Free = given(x.Free, purse(3, 2), 36)
	wantDone(t, x, cancelOf(3, 1, 0, 9), after, 36, 0)
}

// P12.3: CmdCollect moves what is owed to the client in the lane, and A and B are the amounts.
func TestCollect(t *testing.T) {
	x := plain()
	after := copied(x)
	after.Lanes[0].Owed = list(hold(2, 2, 8), hold(63, 1, 4))
	after.Free = given(given(x.Free, purse(3, 1), 6), purse(3, 2), 80)
	y := wantDone(t, x, inLane(collect, 3, 1, 0), after, 6, 80)
	after = copied(y)
	after.Lanes[2].Owed = nil
	after.Free = given(y.Free, purse(3, 2), 89)
	y = wantDone(t, y, inLane(collect, 3, 2, 2), after, 9, 0)
	for number := range 3 {
		y = wantFails(t, y, inLane(collect, 3, 3+number, number), api.ErrNothing)
		wantFails(t, x, inLane(collect, 1, 5, number), api.ErrNothing)
	}
	wantFails(t, x, inLane(collect, 63, 2, 0), api.ErrOver)
	for id := 1; id < accounts; id++ {
		wantFails(t, full(), inLane(collect, id, most, id%6), api.ErrOver)
	}
}

// P12.3: CmdTop tells both sides' best prices.
func TestTop(t *testing.T) {
	wantDone(t, plain(), inLane(top, 3, 1, 0), plain(), 10, 12)
	wantDone(t, plain(), inLane(top, 3, 1, 1), plain(), 0, 0)
	wantDone(t, plain(), inLane(top, 3, 1, 2), plain(), 3, 8)
	one := api.Exchange{Lanes: []api.Lane{laned(1, 2, 9, nil, order(3, 3, buy, 7, 2)), laned(1, 2, 9, nil, order(3, 3, sell, 9, 2))}}
	wantDone(t, one, inLane(top, 63, most, 0), one, 7, 0)
	wantDone(t, one, inLane(top, 0, 1, 1), one, 0, 9)
}

// split is x with a level for each order, and levels without orders beside them.
func split(x api.Exchange) api.Exchange {
	levels := func(l []api.Level) []api.Level {
		s := []api.Level{{Price: 4}}
		for _, v := range l {
			for _, o := range v.Orders {
				s = append(s, api.Level{Price: v.Price, Orders: []api.Order{o}}, api.Level{Price: -o.Id})
			}
		}
		return s
	}
	s := copied(x)
	for i, l := range x.Lanes {
		s.Lanes[i].Book.Buys, s.Lanes[i].Book.Sells = levels(l.Book.Buys), levels(l.Book.Sells)
	}
	return s
}

// P12.4: an exchange is the same as its copy, and as another only if that holds the same.
func TestSame(t *testing.T) {
	all := append(rights(), wrongs()...)
	for _, a := range all {
		wantSame(t, a, copied(a), true)
		for _, b := range all {
			wantSame(t, a, b, same(a, b))
		}
	}
	empty := api.Exchange{Free: []api.Holding{}, Lanes: []api.Lane{}, Sessions: []api.Session{}, In: []api.Holding{}, Out: []api.Holding{}}
	wantSame(t, api.Exchange{}, empty, true)
}

// P12.4: how orders are put into levels doesn't matter, even if they may not be so.
func TestSameLevels(t *testing.T) {
	for _, x := range append(rights(), wrongs()...) {
		wantSame(t, x, split(x), true)
	}
	a, b := plain(), plain()
	a.Lanes[1].Book.Buys, b.Lanes[1].Book.Buys = nil, make([]api.Level, 3)
	a.Lanes[1].Book.Sells, b.Lanes[1].Book.Sells = []api.Level{}, []api.Level{{Price: 4, Orders: []api.Order{}}}
	wantSame(t, a, b, true)
	b.Lanes[0].Book.Buys[0].Price = 11
	wantSame(t, a, b, true)
}

// changes are functions that change each one field of the plain exchange.
func changes() []func(*api.Exchange) {
	return []func(*api.Exchange){
		func(x *api.Exchange) { x.Free[0].Amount++ }, func(x *api.Exchange) { x.Free[6].Purse.Asset++ }, func(x *api.Exchange) { x.Free = x.Free[1:] }, func(x *api.Exchange) { x.Free = nil },
		func(x *api.Exchange) { x.In[3].Amount-- }, func(x *api.Exchange) { x.In[0].Purse.Account++ }, func(x *api.Exchange) { x.In = x.In[:3] },
		func(x *api.Exchange) { x.Out[1].Amount-- }, func(x *api.Exchange) { x.Out[0], x.Out[1] = x.Out[1], x.Out[0] }, func(x *api.Exchange) { x.Out = append(x.Out, hold(9, 1, 1)) },
		func(x *api.Exchange) { x.Sessions[0].Client-- }, func(x *api.Exchange) { x.Sessions[1].Seq-- }, func(x *api.Exchange) { x.Sessions[2].Reply.A++ }, func(x *api.Exchange) { x.Sessions[3].Reply.B++ },
		func(x *api.Exchange) { x.Sessions[3].Reply.Code++ }, func(x *api.Exchange) { x.Sessions[3].Reply.Seq++ }, func(x *api.Exchange) { x.Sessions[3].Reply.Client++ }, func(x *api.Exchange) { x.Sessions = x.Sessions[:3] },
		func(x *api.Exchange) { x.Lanes[1].Base++ }, func(x *api.Exchange) { x.Lanes[1].Quote-- }, func(x *api.Exchange) { x.Lanes[2].Book.Next++ }, func(x *api.Exchange) { x.Lanes[0].Owed[2].Amount++ },
		func(x *api.Exchange) { x.Lanes[2].Owed = nil }, func(x *api.Exchange) { x.Lanes = x.Lanes[:2] }, func(x *api.Exchange) { x.Lanes[0], x.Lanes[2] = x.Lanes[2], x.Lanes[0] },
		func(x *api.Exchange) { x.Lanes = append(x.Lanes, laned(1, 2, 1, nil)) },
		func(x *api.Exchange) { x.Lanes[0].Book.Buys[0].Orders[1].Id = 18 }, func(x *api.Exchange) { x.Lanes[0].Book.Buys[0].Orders[1].Owner++ }, func(x *api.Exchange) { x.Lanes[0].Book.Buys[2].Orders[0].Side++ },
		func(x *api.Exchange) { x.Lanes[0].Book.Sells[1].Orders[0].Price++ }, func(x *api.Exchange) { x.Lanes[2].Book.Sells[0].Orders[0].Left++ },
		func(x *api.Exchange) { o := x.Lanes[0].Book.Buys[0].Orders; o[0], o[1] = o[1], o[0] }, func(x *api.Exchange) { o := x.Lanes[0].Book.Sells[0].Orders; o[0], o[1] = o[1], o[0] },
		func(x *api.Exchange) { x.Lanes[0].Book.Buys = x.Lanes[0].Book.Buys[1:] }, func(x *api.Exchange) { x.Lanes[0].Book.Sells = x.Lanes[0].Book.Sells[:2] },
		func(x *api.Exchange) { b := &x.Lanes[0].Book; b.Buys, b.Sells = b.Sells, b.Buys },
		func(x *api.Exchange) { b := &x.Lanes[0].Book; b.Buys, b.Sells = slices.Concat(b.Buys, b.Sells), nil },
	}
}

// P12.4: one number that is another is enough, wherever it is.
func TestNotSame(t *testing.T) {
	for i, change := range changes() {
		x := plain()
		change(&x)
		wantSame(t, plain(), x, false)
		wantSame(t, x, copied(x), true)
		for _, other := range changes()[:i] {
			y := plain()
			other(&y)
			wantSame(t, x, y, false)
		}
	}
}

// wantRun wants Run to answer what Apply answers, one command after the other.
func wantRun(t *testing.T, x api.Exchange, l []api.Cmd) {
	t.Helper()
	want, replies, before, cmds := copied(x), []api.Reply{}, copied(x), slices.Clone(l)
	for _, c := range l {
		r := api.Reply{}
		want, r = exchange.Apply(want, c)
		replies = append(replies, r)
	}
	got, r := exchange.Run(x, l)
	if !same(got, want) || !slices.Equal(r, replies) || !same(x, before) || !slices.Equal(l, cmds) {
		t.Errorf("Run(%v, %v) = %v, %v, want %v, %v", before, cmds, got, r, want, replies)
	}
}

// P12.5: all commands in order, whatever they come to, and a reply for each.
func TestRun(t *testing.T) {
	for _, x := range append(rights(), wrongs()...) {
		wantRun(t, x, nil)
		wantRun(t, x, []api.Cmd{})
		wantRun(t, x, []api.Cmd{{}})
		wantRun(t, x, wrongCmds())
		l := slices.Concat(someCmds(3, 5), someCmds(3, 6), someCmds(64, 1), someCmds(4, 1), []api.Cmd{{}}, someCmds(3, 5), someCmds(1, 7))
		for i := range l {
			l[i].Seq += i * (l[i].Seq % 2)
		}
		wantRun(t, x, l)
	}
	x, r := exchange.Run(api.Exchange{}, []api.Cmd{onPurse(deposit, 1, 1, 0, 5), {}, onPurse(withdraw, 1, 2, 0, 6), onPurse(withdraw, 1, 3, 0, 2), onPurse(withdraw, 1, 3, 0, 2), onPurse(balance, 1, 2, 0, 0), onPurse(deposit, 64, 1, 0, 5)})
	want := []api.Reply{reply(1, 1, 0, 5, 0), {}, reply(1, 2, api.ErrFunds, 0, 0), reply(1, 3, 0, 3, 0), reply(1, 3, 0, 3, 0), reply(1, 2, api.ErrOld, 0, 0), reply(64, 1, api.ErrArg, 0, 0)}
	after := api.Exchange{Free: list(hold(1, 0, 3)), In: list(hold(1, 0, 5)), Out: list(hold(1, 0, 2)), Sessions: []api.Session{of(want[3])}}
	if !same(x, after) || !slices.Equal(r, want) {
		t.Errorf("%v, %v, want %v, %v", x, r, after, want)
	}
}

// mixed are count numbers from 0 to below, the same ones at each call.
func mixed(count, below int) []int {
	l := make([]int, count)
	u := uint64(count)*2654435769 + uint64(below)
	for i := range l {
		u = u*6364136223846793005 + 1442695040888963407
		l[i] = int(u>>33) % below
	}
	return l
}

// table is how much each account has of each asset.
type table [accounts][assets]int

// tabled is the table of l.
func tabled(l []api.Holding) table {
	t := table{}
	for _, h := range l {
		t[h.Purse.Account][h.Purse.Asset] = h.Amount
	}
	return t
}

// holdings is what is in the table, in order.
func (t table) holdings() []api.Holding {
	l := []api.Holding{}
	for id, purses := range t {
		for asset, n := range purses {
			if n > 0 {
				l = append(l, hold(id, asset, n))
			}
		}
	}
	return l
}

// market is a lane as a model: all orders in the order of their arrival, of which the best one is searched for each time.
type market struct {
	base, quote, next int
	orders            []api.Order
	owed              table
}

// model is another exchange, of tables in which amounts are moved first, and looked at then whether they may be.
type model struct {
	free, in, out table
	markets       []market
	last          [accounts]api.Reply
}

func (m model) exchange() api.Exchange {
	x := api.Exchange{Free: m.free.holdings(), In: m.in.holdings(), Out: m.out.holdings()}
	for _, k := range m.markets {
		x.Lanes = append(x.Lanes, laned(k.base, k.quote, k.next, k.owed.holdings(), k.orders...))
	}
	for _, r := range m.last {
		if r.Seq > 0 {
			x.Sessions = append(x.Sessions, of(r))
		}
	}
	return x
}

func (m model) copy() model {
	m.markets = slices.Clone(m.markets)
	for i, k := range m.markets {
		m.markets[i].orders = slices.Clone(k.orders)
	}
	return m
}

// apply tells the model behind a command, which may be, and what the reply should be.
func (m model) apply(c api.Cmd) (model, api.Reply) {
	last := m.last[c.Client]
	if c.Seq == last.Seq {
		return m, last
	}
	if c.Seq < last.Seq {
		return m, reply(c.Client, c.Seq, api.ErrOld, 0, 0)
	}
	after := m.copy()
	a, b, code := after.execute(c)
	if code != api.OK {
		after, a, b = m.copy(), 0, 0
	}
	r := reply(c.Client, c.Seq, code, a, b)
	after.last[c.Client] = r
	return after, r
}

// execute changes the model, which with an error is of no use any more.
func (m *model) execute(c api.Cmd) (int, int, api.Errno) {
	free := &m.free[c.Client][c.Asset]
	if c.Kind == deposit || c.Kind == withdraw {
		log, sign := &m.in[c.Client][c.Asset], 1
		if c.Kind == withdraw {
			log, sign = &m.out[c.Client][c.Asset], -1
		}
		*log += c.Qty
		*free += sign * c.Qty
		switch {
		case c.Qty == 0:
			return 0, 0, api.ErrArg
		case *free < 0:
			return 0, 0, api.ErrFunds
		case *free > most || *log > most:
			return 0, 0, api.ErrOver
		}
	}
	if c.Kind == deposit || c.Kind == withdraw || c.Kind == balance {
		return *free, 0, api.OK
	}
	if c.Lane >= len(m.markets) {
		return 0, 0, api.ErrNone
	}
	k := &m.markets[c.Lane]
	switch c.Kind {
	case cancel:
		return k.cancel(&m.free, c)
	case collect:
		return k.collect(&m.free, c)
	case top:
		return k.top()
	}
	return k.place(&m.free, c)
}

// pays tells the asset that a side pays by.
func (k market) pays(side int) int {
	return map[int]int{buy: k.quote, sell: k.base}[side]
}

// need is what an order needs of that asset.
func need(o api.Order) int {
	return o.Left * map[int]int{buy: o.Price, sell: 1}[o.Side]
}

// top tells both best prices, by going through all orders.
func (k market) top() (int, int, api.Errno) {
	buyer, seller := 0, 0
	for _, o := range k.orders {
		if o.Side == buy {
			buyer = max(buyer, o.Price)
		} else if seller == 0 || o.Price < seller {
			seller = o.Price
		}
	}
	return buyer, seller, api.OK
}

func (k *market) cancel(free *table, c api.Cmd) (int, int, api.Errno) {
	for i, o := range k.orders {
		if o.Id != c.Order {
			continue
		}
		if o.Owner != c.Client {
			return 0, 0, api.ErrOther
		}
		p := &free[o.Owner][k.pays(o.Side)]
		*p += need(o)
		if *p > most {
			return 0, 0, api.ErrOver
		}
		k.orders = slices.Delete(k.orders, i, i+1)
		return need(o), 0, api.OK
	}
	return 0, 0, api.ErrNone
}

func (k *market) collect(free *table, c api.Cmd) (int, int, api.Errno) {
	own, owed := &free[c.Client], k.owed[c.Client]
	own[k.base] += owed[k.base]
	own[k.quote] += owed[k.quote]
	k.owed[c.Client] = [assets]int{}
	if owed == k.owed[c.Client] {
		return 0, 0, api.ErrNothing
	}
	if own[k.base] > most || own[k.quote] > most {
		return 0, 0, api.ErrOver
	}
	return owed[k.base], owed[k.quote], api.OK
}

// best tells where the best order is that the command's meets, or -1.
func (k market) best(c api.Cmd) int {
	best := -1
	for i, r := range k.orders {
		if r.Side == c.Side || c.Side == buy && r.Price > c.Price || c.Side == sell && r.Price < c.Price {
			continue
		}
		if best < 0 || c.Side == buy && r.Price < k.orders[best].Price || c.Side == sell && r.Price > k.orders[best].Price {
			best = i
		}
	}
	return best
}

func (k *market) place(free *table, c api.Cmd) (int, int, api.Errno) {
	if c.Side == 0 || c.Price < 1 || c.Price > maxPrice || c.Qty < 1 || c.Qty > maxPrice {
		return 0, 0, api.ErrArg
	}
	own, left, id, over := &free[c.Client], c.Qty, 0, false
	for at := k.best(c); left > 0 && at >= 0; at = k.best(c) {
		r := &k.orders[at]
		if r.Owner == c.Client {
			return 0, 0, api.ErrSelf
		}
		bought := min(left, r.Left)
		base, quote := bought, bought*r.Price
		if c.Side == buy {
			own[k.base] += base
			own[k.quote] -= quote
			k.owed[r.Owner][k.quote] += quote
		} else {
			own[k.base] -= base
			own[k.quote] += quote
			k.owed[r.Owner][k.base] += base
		}
		over = over || k.owed[r.Owner][k.base] > most || k.owed[r.Owner][k.quote] > most
		left -= bought
		r.Left -= bought
		k.orders = slices.DeleteFunc(k.orders, func(o api.Order) bool { return o.Left == 0 })
	}
	if c.Kind == limit && left > 0 {
		if len(k.orders) >= maxOrders || k.next == maxId {
			return 0, 0, api.ErrFull
		}
		id = k.next
		rests := order(id, c.Client, c.Side, c.Price, left)
		k.orders = append(k.orders, rests)
		k.next++
		own[k.pays(c.Side)] -= need(rests)
	}
	switch {
	case over:
		return 0, 0, api.ErrOver
	case own[k.pays(c.Side)] < 0:
		return 0, 0, api.ErrFunds
	case own[k.base] > most || own[k.quote] > most:
		return 0, 0, api.ErrOver
	}
	return id, c.Qty - map[int]int{limit: left, ioc: left}[c.Kind], api.OK
}

// others is what of x doesn't belong to the keys of c.
func others(x api.Exchange, c api.Cmd) api.Exchange {
	x = copied(x)
	keys := command.Keys(c)
	strange := func(l []api.Holding) []api.Holding {
		return slices.DeleteFunc(l, func(h api.Holding) bool { return slices.Contains(keys, api.Key{Id: h.Purse.Account}) })
	}
	x.Free, x.In, x.Out = strange(x.Free), strange(x.In), strange(x.Out)
	x.Sessions = slices.DeleteFunc(x.Sessions, func(s api.Session) bool { return slices.Contains(keys, api.Key{Id: s.Client}) })
	for i := range x.Lanes {
		if slices.Contains(keys, api.Key{Lane: true, Id: i}) {
			x.Lanes[i] = api.Lane{}
		}
	}
	return x
}

// wantEither wants what P12.8 says: both commands come to the same in either order, if they don't interfere. It tells whether they don't.
func wantEither(t *testing.T, x api.Exchange, c, d api.Cmd) bool {
	t.Helper()
	if command.Meets(c, d) {
		return false
	}
	one, r := exchange.Run(x, []api.Cmd{c, d})
	other, s := exchange.Run(x, []api.Cmd{d, c})
	if !same(one, other) || !exchange.Same(one, other) || r[0] != s[1] || r[1] != s[0] {
		t.Errorf("%v and %v with %v: %v, %v, and %v, %v the other way round", c, d, x, one, r, other, s)
	}
	return true
}

// wantStep wants what the model says, and P12.6, P12.7 and P12.9, and tells both behind the command.
func wantStep(t *testing.T, m model, x api.Exchange, c api.Cmd) (model, api.Exchange, api.Reply) {
	t.Helper()
	after, r := m.apply(c)
	want := after.exchange()
	wantApply(t, x, c, want, r)
	wantRight(t, want, true)
	if !same(others(want, c), others(x, c)) {
		t.Errorf("%v has changed %v to %v", c, x, want)
	}
	if r.Code != api.ErrOld {
		wantApply(t, want, c, copied(want), r)
	}
	got, _ := exchange.Apply(x, c)
	wantSame(t, got, want, true)
	return after, got, r
}

// stocked is a model of lanes of these pairs, in which so many accounts have each a free amount of each asset, as much as has gone out, and are owed another.
func stocked(pairs []api.Purse, owners int, free, owed func(id, asset int) int) model {
	m := model{}
	for _, p := range pairs {
		m.markets = append(m.markets, market{base: p.Account, quote: p.Asset, next: 1})
	}
	for id := range owners {
		for asset := range assets {
			m.free[id][asset] = free(id, asset)
			m.out[id][asset] = m.free[id][asset]
		}
		for i, k := range m.markets {
			m.markets[i].owed[id][k.base], m.markets[i].owed[id][k.quote] = owed(id, k.base), owed(id, k.quote)
		}
	}
	return m
}

// scale is how great the numbers of a run's commands are, and of which apart in ten of those that may rest keep away from the other side, so that many rest.
type scale struct {
	owners, prices, qtys, amounts, apart int
}

// drawn is a valid command by ten numbers, of a client that the model tells what to do with.
func (m model) drawn(p []int, s scale) api.Cmd {
	kinds := []int{deposit, deposit, withdraw, limit, limit, limit, limit, limit, limit, ioc, ioc, ioc, cancel, cancel, cancel, collect, balance, top, top}
	c := api.Cmd{Kind: kinds[p[0]%len(kinds)], Client: p[1] % s.owners, Lane: p[2] % len(m.markets), Asset: p[3] % assets, Side: 1 + p[4]%2, Price: 1 + p[5]%s.prices, Qty: 1 + p[6]%s.qtys}
	k := m.markets[c.Lane]
	if c.Kind == deposit || c.Kind == withdraw {
		c.Qty = p[6] % s.amounts
		c.Asset = map[bool]int{true: k.base, false: k.quote}[p[3]%2 == 0]
	}
	if c.Kind == limit && p[7]%10 < s.apart {
		c.Price = 1 + (p[5]%s.prices+(c.Side-1)*s.prices)/2
	}
	if c.Kind == cancel && len(k.orders) > 0 {
		o := k.orders[p[3]%len(k.orders)]
		c.Order = o.Id
		if p[4]%4 > 0 {
			c.Client = o.Owner
		}
	}
	c.Seq = m.last[c.Client].Seq + map[int]int{0: 3, 1: 0, 2: -1}[p[8]%20] + map[bool]int{true: 1}[p[8]%20 > 2]
	c.Seq = max(c.Seq, 1)
	switch p[9] % 40 {
	case 0:
		c.Lane = maxLanes - 1
	case 1:
		c.Side, c.Qty = 0, 0
	case 2:
		c.Price, c.Qty = maxPrice+1, maxPrice+1
	case 3:
		c.Order, c.Price = 0, 0
	}
	return c
}

// run holds many commands against the model, and tells how often each kind came to each error, and how many neighbours did not interfere.
func run(t *testing.T, m model, s scale, met map[[2]int]int) {
	x := m.exchange()
	before, last := x, api.Cmd{}
	for p := range slices.Chunk(mixed(10*400, 1<<30-s.owners-s.prices-s.apart-s.amounts%1000-m.markets[0].base), 10) {
		c := m.drawn(p, s)
		if wantEither(t, before, last, c) {
			met[[2]int{0, 0}]++
		}
		before, last = x, c
		r := api.Reply{}
		m, x, r = wantStep(t, m, x, c)
		met[[2]int{c.Kind, int(r.Code)}]++
		if t.Failed() {
			t.FailNow()
		}
	}
}

// P12.3, P12.6 to P12.9: many commands, held against an exchange of another sort, with nothing free at first, with much, and with all but too much.
func TestMany(t *testing.T) {
	met := map[[2]int]int{}
	none := func(id, asset int) int { return 0 }
	much := func(id, asset int) int { return 1 << 45 }
	near := func(id, asset int) int { return most - 20*id }
	for i, pairs := range [][]api.Purse{{purse(1, 0)}, {purse(2, 5), purse(5, 2), purse(7, 2)}, {purse(0, 1), purse(1, 2), purse(2, 3), purse(1, 0), purse(0, 7)}} {
		for _, apart := range []int{1, 9} {
			run(t, stocked(pairs, 3+20*i, none, none), scale{3 + 20*i, 12, 9, 300, apart}, met)
			run(t, stocked(pairs, 4+5*i, much, none), scale{4 + 5*i, 40, 9, 3000, apart}, met)
			run(t, stocked(pairs, 64, much, near), scale{64, maxPrice, maxPrice, most + 1, apart}, met)
			run(t, stocked(pairs, 5+i, near, near), scale{5 + i, 12, 9, 40, apart}, met)
		}
	}
	// A run that seldom comes to one of them would hold nothing of it.
	for kind, errs := range [][]api.Errno{
		0:       {api.OK},
		deposit: {api.OK, api.ErrArg, api.ErrOver, api.ErrOld}, withdraw: {api.OK, api.ErrArg, api.ErrFunds, api.ErrOver, api.ErrOld},
		limit: {api.OK, api.ErrArg, api.ErrSelf, api.ErrFull, api.ErrFunds, api.ErrOver, api.ErrNone, api.ErrOld}, ioc: {api.OK, api.ErrArg, api.ErrSelf, api.ErrFunds, api.ErrOver, api.ErrNone, api.ErrOld},
		cancel: {api.OK, api.ErrNone, api.ErrOther, api.ErrOver, api.ErrOld}, collect: {api.OK, api.ErrNothing, api.ErrOver, api.ErrNone, api.ErrOld},
		balance: {api.OK, api.ErrOld}, top: {api.OK, api.ErrNone, api.ErrOld},
	} {
		for _, err := range errs {
			if met[[2]int{kind, int(err)}] < 10 {
				t.Errorf("error %d came %d times of kind %d", err, met[[2]int{kind, int(err)}], kind)
			}
		}
	}
}

// P12.8: each two commands of all kinds, of several clients and lanes, in either order.
func TestEitherOrder(t *testing.T) {
	x, count := plain(), 0
	cmds := slices.Concat(someCmds(3, 5), someCmds(4, 1), []api.Cmd{{}, onPurse(deposit, 5, 10, 7, 1), cancelOf(2, most, 2, 2), cancelOf(1, 5, 2, 6), trade(limit, 1, 5, 2, buy, 8, 1), inLane(collect, 63, 2, 0), inLane(top, 9, 1, 1), onPurse(withdraw, 1, 5, 2, 11)})
	for _, c := range cmds {
		for _, d := range cmds {
			if wantEither(t, x, c, d) {
				count++
			}
		}
	}
	if count < 200 {
		t.Errorf("%d pairs don't interfere", count)
	}
}

// P12.9: what belongs to other keys stays, of each kind.
func TestOthers(t *testing.T) {
	for _, x := range rights() {
		for _, id := range []int{1, 2, 3, 5, 10, 63} {
			for _, c := range someCmds(id, lastSeq(x, id)+1) {
				if got, _ := exchange.Apply(x, c); !same(others(got, c), others(x, c)) {
					t.Errorf("%v has changed %v to %v", c, x, got)
				}
			}
		}
	}
}

// spare is what lies behind the end of lists.
func spare() (api.Order, api.Holding, api.Session) {
	return order(555, 55, 5, 55, 5), hold(55, 5, 55), of(reply(55, 5, 5, 55, 5))
}

// roomyLevels is l with room behind the end of each list, in which other things lie.
func roomyLevels(l []api.Level) []api.Level {
	o, _, _ := spare()
	room := []api.Level{}
	for _, v := range l {
		orders := append(slices.Clone(v.Orders), o, o, o)
		room = append(room, api.Level{Price: v.Price, Orders: orders[:len(v.Orders)]})
	}
	behind := api.Level{Price: 55, Orders: []api.Order{o}}
	return append(room, behind, behind)[:len(l)]
}

// roomy is x with room behind the end of each list, in which other things lie.
func roomy(x api.Exchange) api.Exchange {
	_, h, s := spare()
	holdings := func(l []api.Holding) []api.Holding {
		return append(slices.Clone(l), h, h, h)[:len(l)]
	}
	room := api.Exchange{Free: holdings(x.Free), In: holdings(x.In), Out: holdings(x.Out), Sessions: append(slices.Clone(x.Sessions), s, s)[:len(x.Sessions)]}
	for _, l := range x.Lanes {
		b := api.Book{Buys: roomyLevels(l.Book.Buys), Sells: roomyLevels(l.Book.Sells), Next: l.Book.Next}
		room.Lanes = append(room.Lanes, api.Lane{Base: l.Base, Quote: l.Quote, Book: b, Owed: holdings(l.Owed)})
	}
	behind := laned(5, 5, 55, list(h))
	room.Lanes = append(room.Lanes, behind, behind)[:len(x.Lanes)]
	return room
}

// behind is x, which is roomy, with what lies behind the end of each list too.
func behind(x api.Exchange) api.Exchange {
	levels := func(l []api.Level) []api.Level {
		all := slices.Clone(l[:len(l)+2])
		for i, v := range l {
			all[i].Orders = v.Orders[:len(v.Orders)+3]
		}
		return all
	}
	all := api.Exchange{Free: x.Free[:len(x.Free)+3], In: x.In[:len(x.In)+3], Out: x.Out[:len(x.Out)+3], Sessions: x.Sessions[:len(x.Sessions)+2], Lanes: slices.Clone(x.Lanes[:len(x.Lanes)+2])}
	for i, l := range x.Lanes {
		all.Lanes[i].Book.Buys, all.Lanes[i].Book.Sells, all.Lanes[i].Owed = levels(l.Book.Buys), levels(l.Book.Sells), l.Owed[:len(l.Owed)+3]
	}
	return all
}

// wantRoomy wants x to be what roomy made of old.
func wantRoomy(t *testing.T, x, old api.Exchange) {
	t.Helper()
	if !same(x, old) || !same(behind(x), behind(roomy(old))) {
		t.Fatalf("%v is there, want %v", behind(x), behind(roomy(old)))
	}
}

// visit calls each function with x in many ways, and hands over what it answers if that is not x itself.
func visit(x api.Exchange, got func(api.Exchange)) {
	for _, id := range []int{1, 2, 3, 5, 10, 63} {
		for _, seq := range []int{lastSeq(x, id), lastSeq(x, id) + 1} {
			for _, c := range someCmds(id, seq) {
				after, _ := exchange.Apply(x, c)
				if !same(after, x) {
					got(after)
				}
				after, _ = exchange.Run(x, []api.Cmd{{}, c, c})
				if !same(after, x) {
					got(after)
				}
			}
		}
	}
	exchange.Right(x)
	exchange.Same(x, plain())
	exchange.Same(x, x)
}

// R3: neither what is handed in nor what is behind the end of its lists is changed.
func TestUnchanged(t *testing.T) {
	for _, old := range append(rights(), wrongs()...) {
		x := roomy(old)
		visit(x, func(api.Exchange) {})
		wantRoomy(t, x, old)
	}
	cmds := slices.Concat(someCmds(3, 1), wrongCmds())
	room := append(slices.Clone(cmds), api.Cmd{Kind: 55}, api.Cmd{Kind: 55})
	exchange.Run(plain(), room[:len(cmds)])
	pairs := []api.Purse{purse(1, 0), purse(2, 0), purse(55, 5)}
	exchange.New(pairs[:2])
	if !slices.Equal(room, append(cmds, api.Cmd{Kind: 55}, api.Cmd{Kind: 55})) || !slices.Equal(pairs, []api.Purse{purse(1, 0), purse(2, 0), purse(55, 5)}) {
		t.Errorf("%v, %v", room, pairs)
	}
}

// fill writes v over all of a list and what is behind its end, and over all of a copy of it.
func fill[E any](l, copied []E, v E) {
	l = l[:cap(l)]
	for i := range l {
		l[i] = v
	}
	for i := range copied {
		copied[i] = v
	}
}

// scribble writes over all of x, one list after the other, and wants the other ones to stay as they were.
func scribble(t *testing.T, x api.Exchange) {
	t.Helper()
	o, h, s := spare()
	want := copied(x)
	check := func() {
		t.Helper()
		if !same(x, want) {
			t.Fatalf("%v is there, want %v", x, want)
		}
	}
	for i, l := range x.Lanes {
		w := want.Lanes[i]
		for side, levels := range [][]api.Level{l.Book.Buys, l.Book.Sells} {
			copies := [][]api.Level{w.Book.Buys, w.Book.Sells}[side]
			for j, v := range levels {
				fill(v.Orders, copies[j].Orders, o)
				check()
			}
			fill(levels, copies, api.Level{Price: 66})
			check()
		}
		fill(l.Owed, w.Owed, h)
		check()
	}
	fill(x.Free, want.Free, h)
	check()
	fill(x.In, want.In, h)
	check()
	fill(x.Out, want.Out, h)
	check()
	fill(x.Sessions, want.Sessions, s)
	check()
	fill(x.Lanes, want.Lanes, laned(5, 5, 5, nil))
	check()
}

// R3: what is told shares nothing with what was handed in, nor do two lists of it.
func TestOwnMemory(t *testing.T) {
	for _, old := range rights() {
		x := roomy(old)
		visit(x, func(got api.Exchange) {
			scribble(t, got)
			wantRoomy(t, x, old)
		})
	}
	// One list that is handed in several times.
	h := list(hold(1, 1, 9), hold(1, 2, 900), hold(3, 1, 9), hold(3, 2, 900))
	l := laned(1, 2, 300, h, crowd()[:20]...)
	x := api.Exchange{Free: h, In: h, Out: h, Lanes: []api.Lane{l, l, l, l}}
	old := copied(x)
	visit(x, func(got api.Exchange) {
		scribble(t, got)
		if !same(x, old) {
			t.Fatalf("%v is there, want %v", x, old)
		}
	})
	for range 2 {
		made, _ := exchange.New([]api.Purse{purse(1, 2), purse(2, 1)})
		if !same(made, api.Exchange{Lanes: []api.Lane{laned(1, 2, 1, nil), laned(2, 1, 1, nil)}}) {
			t.Errorf("%v", made)
		}
		scribble(t, made)
	}
}

// R3: what was told stays so when it is put to use again.
func TestKept(t *testing.T) {
	cmds := someCmds(3, 1)
	for i := range cmds {
		cmds[i].Seq += i
	}
	first, replies := exchange.Run(plain(), cmds)
	want, wantReplies := copied(first), slices.Clone(replies)
	visit(first, func(api.Exchange) {})
	exchange.Run(first, cmds)
	exchange.Run(plain(), someCmds(5, most))
	if !same(first, want) || !slices.Equal(replies, wantReplies) {
		t.Errorf("%v, %v, want %v, %v", first, replies, want, wantReplies)
	}
}

// R4: the same answer each time.
func TestAgain(t *testing.T) {
	for _, c := range someCmds(3, 1) {
		want, r := exchange.Apply(plain(), c)
		for range 20 {
			wantApply(t, plain(), c, want, r)
		}
	}
}

// R1: no call panics, whatever it is given.
func TestNoPanic(t *testing.T) {
	for _, x := range append(rights(), wrongs()...) {
		for _, n := range numbers() {
			for kind := -1; kind <= 9; kind++ {
				c := api.Cmd{Kind: kind, Client: 3, Seq: 5, Lane: n, Side: sell, Price: 1, Qty: n}
				exchange.Apply(x, c)
				exchange.Apply(x, api.Cmd{Kind: kind, Client: n, Seq: n, Lane: 1, Asset: n, Order: n, Side: n, Price: n, Qty: 1})
				exchange.Apply(x, api.Cmd{Kind: kind, Client: 3, Seq: n, Side: buy, Price: n, Qty: 3})
			}
			changed := copied(x)
			for i := range changed.Lanes {
				changed.Lanes[i].Book.Next = n
			}
			changed.Free = append(changed.Free, hold(n, 1, n), hold(n, n, 1))
			changed.Sessions = append(changed.Sessions, of(reply(n, n, 0, 0, 0)))
			exchange.Run(changed, someCmds(3, 5))
			exchange.Same(changed, x)
		}
	}
}

// R1: a call ends soon for very many orders, holdings, lanes, sessions and commands too.
func TestVeryMany(t *testing.T) {
	x := api.Exchange{Lanes: []api.Lane{laned(1, 2, maxId, nil)}}
	for id := 1; id <= 100000; id++ {
		x.Lanes[0].Book.Sells = append(x.Lanes[0].Book.Sells, api.Level{Price: 1 + id, Orders: []api.Order{order(id, 1, sell, 1+id, 1)}})
		x.Free = append(x.Free, hold(id, 1, 1))
		x.Sessions = append(x.Sessions, of(reply(id, 1, 0, 0, 0)))
	}
	wantRight(t, x, false)
	wantSame(t, x, x, true)
	wantRefused(t, x, inLane(top, 1, 2, 0), api.ErrArg)
	wantRefused(t, api.Exchange{Lanes: make([]api.Lane, 1000000)}, inLane(top, 1, 2, 0), api.ErrArg)
	if _, err := exchange.New(make([]api.Purse, 1000000)); err != api.ErrLong {
		t.Errorf("New: %d", err)
	}
	cmds := []api.Cmd{}
	for i := range 20000 {
		cmds = append(cmds, onPurse(deposit, i%accounts, 1+i/accounts, i%assets, 1))
	}
	after, replies := exchange.Run(api.Exchange{}, cmds)
	for i, r := range replies {
		if r != reply(i%accounts, 1+i/accounts, api.OK, 1+i/accounts, 0) {
			t.Fatalf("reply %d is %v", i, r)
		}
	}
	wantRight(t, after, true)
}
