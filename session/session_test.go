package session_test

import (
	"math"
	"slices"
	"testing"

	"cambist/api"
	"cambist/session"
)

// most is the greatest Seq, and clients how many clients there are, by the chapter's own figures and those of the list of limits.
const (
	most    = 1125899906842624
	clients = 64
)

// numbers are ints of all sorts: the least and the greatest ones, and those about each limit.
func numbers() []int {
	return []int{math.MinInt, math.MinInt + 1, math.MinInt32, -most, -64, -2, -1, 0, 1, 2, 3, 5, 6, 8, 9, 62, 63, 64, 65, 255, 256, 1 << 32, most - 1, most, most + 1, 2 * most, math.MaxInt - 1, math.MaxInt}
}

func isClient(n int) bool {
	return n >= 0 && n < clients
}

func isSeq(n int) bool {
	return n >= 1 && n <= most
}

// reply is a reply to the client's command, with a Code, an A and a B of which no two are alike.
func reply(client, seq int) api.Reply {
	return api.Reply{Client: client, Seq: seq, Code: api.ErrFunds, A: client*1000 + 7, B: -client - 1}
}

// of is the session with that reply.
func of(r api.Reply) api.Session {
	return api.Session{Client: r.Client, Seq: r.Seq, Reply: r}
}

func sess(client, seq int) api.Session {
	return of(reply(client, seq))
}

func list(l ...api.Session) []api.Session {
	return l
}

// plain is a valid list of some clients.
func plain() []api.Session {
	return list(sess(0, 7), sess(1, 1), sess(3, 5), sess(9, most), sess(63, 2))
}

// full is a valid list of all clients, whose Seqs fall while the clients rise.
func full() []api.Session {
	l := []api.Session{}
	for id := range clients {
		l = append(l, sess(id, 3000-40*id))
	}
	return l
}

// rights are valid lists of all sorts.
func rights() [][]api.Session {
	return [][]api.Session{nil, {}, list(sess(0, 1)), list(sess(63, most)), list(sess(0, most), sess(63, 1)), list(sess(62, 9), sess(63, 8)), plain(), full()}
}

// wrongs are lists that are not valid, each for one reason.
func wrongs() [][]api.Session {
	l := [][]api.Session{
		{{}},
		list(sess(3, 5), sess(3, 5)),
		list(sess(3, 5), sess(3, 6)),
		list(sess(3, 6), sess(3, 5)),
		list(sess(3, 5), sess(2, 6)),
		list(sess(63, 5), sess(0, 5)),
		list(sess(3, 5), sess(9, 5), sess(4, 5)),
		list(sess(3, 5), sess(9, 5), sess(3, 6)),
		list(sess(64, 5)),
		list(sess(-1, 5)),
		list(sess(3, 0)),
		list(sess(3, -1)),
		list(sess(3, most+1)),
		list(api.Session{Client: 3, Seq: 5, Reply: reply(4, 5)}),
		list(api.Session{Client: 3, Seq: 5, Reply: reply(3, 4)}),
		list(api.Session{Client: 0, Seq: 1, Reply: api.Reply{}}),
		append(plain(), sess(64, 1)),
		append(plain(), sess(63, 2)),
		append(full(), sess(64, 1)),
		append(full(), sess(0, 1)),
		append(list(sess(-1, 1)), plain()...),
	}
	for i := range plain() {
		late, early, twice := plain(), plain(), plain()
		late[i].Reply.Seq++
		early[i] = sess(early[i].Client, 0)
		l = append(l, late, early, slices.Insert(twice, i, twice[i]))
	}
	return l
}

// mixed are count numbers from 0 to below, the same ones at each call.
func mixed(count, below int) []int {
	l := make([]int, count)
	u := uint64(count)*2654435769 + uint64(below)
	for i := range l {
		u = u*6364136223846793005 + 1442695040888963407
		l[i] = int(u>>33) % below
	}
	return l
}

// same tells whether a and b hold the same, of which nil and empty ones are alike.
func same(a, b []api.Session) bool {
	return slices.Equal(a, b)
}

func wantRight(t *testing.T, l []api.Session, want bool) {
	t.Helper()
	if got := session.Right(l); got != want {
		t.Errorf("Right(%v) = %t, want %t", l, got, want)
	}
}

func wantLast(t *testing.T, l []api.Session, client, want int) {
	t.Helper()
	if got := session.Last(l, client); got != want {
		t.Errorf("Last(%v, %d) = %d, want %d", l, client, got, want)
	}
}

func wantLook(t *testing.T, l []api.Session, client, seq int, want api.Reply, wantErr api.Errno) {
	t.Helper()
	if got, err := session.Look(l, client, seq); got != want || err != wantErr {
		t.Errorf("Look(%v, %d, %d) = %v, %d, want %v, %d", l, client, seq, got, err, want, wantErr)
	}
}

func wantNote(t *testing.T, l []api.Session, r api.Reply, want []api.Session, wantErr api.Errno) {
	t.Helper()
	if got, err := session.Note(l, r); !same(got, want) || err != wantErr {
		t.Errorf("Note(%v, %v) = %v, %d, want %v, %d", l, r, got, err, want, wantErr)
	}
}

// P11.1: the limits are the chapter's.
func TestLimits(t *testing.T) {
	if api.MaxAmount != most || api.MaxAccounts != clients {
		t.Fatalf("MaxAmount is %d, MaxAccounts %d", api.MaxAmount, api.MaxAccounts)
	}
}

// P11.1: valid lists, up to each edge; what a reply says is free.
func TestRight(t *testing.T) {
	for _, l := range rights() {
		wantRight(t, l, true)
	}
	for id := range clients {
		for _, seq := range []int{1, 2, most - 1, most} {
			wantRight(t, list(sess(id, seq)), true)
		}
	}
	for _, n := range numbers() {
		wantRight(t, list(of(api.Reply{Client: 3, Seq: 5, Code: api.Errno(n)})), true)
		wantRight(t, list(of(api.Reply{Client: 3, Seq: 5, A: n})), true)
		wantRight(t, list(of(api.Reply{Client: 3, Seq: 5, B: n})), true)
	}
}

// P11.1: one session that may not be is enough, wherever it is.
func TestNotRight(t *testing.T) {
	for _, l := range wrongs() {
		wantRight(t, l, false)
	}
	for _, n := range numbers() {
		wantRight(t, list(sess(n, 5)), isClient(n))
		wantRight(t, list(sess(3, n)), isSeq(n))
	}
	for _, right := range [][]api.Session{plain(), full()} {
		for i, s := range right {
			for _, n := range numbers() {
				l := slices.Clone(right)
				l[i] = sess(s.Client, n)
				wantRight(t, l, isSeq(n))
				for _, field := range []func(*api.Session) *int{
					func(s *api.Session) *int { return &s.Client },
					func(s *api.Session) *int { return &s.Seq },
					func(s *api.Session) *int { return &s.Reply.Client },
					func(s *api.Session) *int { return &s.Reply.Seq },
				} {
					l[i] = s
					was := *field(&l[i])
					*field(&l[i]) = n
					wantRight(t, l, n == was)
				}
			}
		}
	}
}

// P11.1: the clients ascend strictly, whatever the Seqs are.
func TestRightOrder(t *testing.T) {
	for a := range clients {
		for b := range clients {
			for _, seq := range []int{1, 5, 9} {
				wantRight(t, list(sess(a, 5), sess(b, seq)), a < b)
			}
		}
		// No client is left out, and each one in turn.
		wantRight(t, slices.Delete(full(), a, a+1), true)
		wantRight(t, full()[a:], true)
		wantRight(t, full()[:a], true)
	}
	for i := 1; i < clients; i++ {
		l := full()
		l[i-1], l[i] = l[i], l[i-1]
		wantRight(t, l, false)
		l = full()
		l[i] = l[i-1]
		wantRight(t, l, false)
		l = full()
		wantRight(t, append(l, l[i]), false)
	}
	l := full()
	slices.Reverse(l)
	wantRight(t, l, false)
}

// P11.2: the client's last Seq, or 0.
func TestLast(t *testing.T) {
	wantLast(t, nil, 0, 0)
	wantLast(t, []api.Session{}, 3, 0)
	for _, s := range plain() {
		wantLast(t, plain(), s.Client, s.Seq)
	}
	for _, id := range numbers() {
		wantLast(t, plain(), id, map[int]int{0: 7, 1: 1, 3: 5, 9: most, 63: 2}[id])
		if !isClient(id) {
			wantLast(t, full(), id, 0)
		}
	}
	for id := range clients {
		wantLast(t, full(), id, 3000-40*id)
	}
}

// odd is a list that is not valid, with several sessions of a client, of which the first is neither the one with the greatest Seq nor the one with the least.
func odd() []api.Session {
	return list(sess(5, 9), sess(3, 6), sess(3, 8), sess(3, 2), sess(64, 4), sess(-1, -3), sess(2, 0), sess(2, 7), sess(8, math.MinInt), sess(7, math.MaxInt), sess(5, 9),
		api.Session{Client: 6, Seq: 4, Reply: reply(1, 2)}, api.Session{Client: 4, Seq: 3})
}

// P11.2: so it is for lists that are not valid, of which the client's first session counts.
func TestLastAnywhere(t *testing.T) {
	for id, want := range map[int]int{5: 9, 3: 6, 64: 4, -1: -3, 2: 0, 8: math.MinInt, 7: math.MaxInt, 6: 4, 4: 3, 1: 0, 0: 0, 9: 0, 65: 0} {
		wantLast(t, odd(), id, want)
	}
	for _, m := range numbers() {
		for _, n := range numbers() {
			wantLast(t, list(sess(11, 1), sess(m, n), sess(m, 4)), m, n)
		}
	}
}

// P11.3: the last command's reply, ErrOld of earlier ones, and ErrNone of later ones.
func TestLook(t *testing.T) {
	l := list(sess(3, 5))
	wantLook(t, l, 3, 5, reply(3, 5), api.OK)
	wantLook(t, l, 3, 4, api.Reply{}, api.ErrOld)
	wantLook(t, l, 3, 6, api.Reply{}, api.ErrNone)
	for _, right := range [][]api.Session{plain(), full()} {
		for _, s := range right {
			wantLook(t, right, s.Client, s.Seq, reply(s.Client, s.Seq), api.OK)
			wantLook(t, right, s.Client, s.Seq-1, api.Reply{}, api.ErrOld)
			wantLook(t, right, s.Client, s.Seq+1, api.Reply{}, api.ErrNone)
			for _, seq := range numbers() {
				if seq < s.Seq {
					wantLook(t, right, s.Client, seq, api.Reply{}, api.ErrOld)
				} else if seq > s.Seq {
					wantLook(t, right, s.Client, seq, api.Reply{}, api.ErrNone)
				}
			}
		}
	}
}

// P11.3: there is none of a client without a session, above all none that is old, whatever Seq is asked for.
func TestLookNobody(t *testing.T) {
	for _, seq := range numbers() {
		for _, id := range []int{0, 3, 63, 64, -1} {
			wantLook(t, nil, id, seq, api.Reply{}, api.ErrNone)
			wantLook(t, []api.Session{}, id, seq, api.Reply{}, api.ErrNone)
		}
		for _, id := range []int{2, 4, 8, 10, 62, 64, -1, math.MinInt, math.MaxInt} {
			wantLook(t, plain(), id, seq, api.Reply{}, api.ErrNone)
		}
		for _, id := range numbers() {
			if !isClient(id) {
				wantLook(t, full(), id, seq, api.Reply{}, api.ErrNone)
			}
		}
	}
}

// P11.3: so it is for lists that are not valid, of which the client's first session counts, with the reply that it has.
func TestLookAnywhere(t *testing.T) {
	wantLook(t, odd(), 3, 6, reply(3, 6), api.OK)
	wantLook(t, odd(), 3, 8, api.Reply{}, api.ErrNone)
	wantLook(t, odd(), 3, 7, api.Reply{}, api.ErrNone)
	wantLook(t, odd(), 3, 2, api.Reply{}, api.ErrOld)
	wantLook(t, odd(), 64, 4, reply(64, 4), api.OK)
	wantLook(t, odd(), -1, -3, reply(-1, -3), api.OK)
	wantLook(t, odd(), -1, -4, api.Reply{}, api.ErrOld)
	wantLook(t, odd(), -1, -2, api.Reply{}, api.ErrNone)
	wantLook(t, odd(), 2, 0, reply(2, 0), api.OK)
	wantLook(t, odd(), 2, 7, api.Reply{}, api.ErrNone)
	wantLook(t, odd(), 2, -1, api.Reply{}, api.ErrOld)
	wantLook(t, odd(), 6, 4, reply(1, 2), api.OK)
	wantLook(t, odd(), 6, 2, api.Reply{}, api.ErrOld)
	wantLook(t, odd(), 1, 2, api.Reply{}, api.ErrNone)
	wantLook(t, odd(), 4, 3, api.Reply{}, api.OK)
	wantLook(t, make([]api.Session, 2), 0, 0, api.Reply{}, api.OK)
	for _, m := range numbers() {
		for _, n := range numbers() {
			l := list(sess(1, m), sess(4, 4), sess(1, n))
			if n == m {
				wantLook(t, l, 1, n, reply(1, m), api.OK)
			} else if n < m {
				wantLook(t, l, 1, n, api.Reply{}, api.ErrOld)
			} else {
				wantLook(t, l, 1, n, api.Reply{}, api.ErrNone)
			}
		}
	}
}

// P11.4: a client's first reply has its place by the client.
func TestNoteFirst(t *testing.T) {
	wantNote(t, nil, reply(3, 5), list(sess(3, 5)), api.OK)
	wantNote(t, []api.Session{}, reply(0, 1), list(sess(0, 1)), api.OK)
	wantNote(t, nil, reply(63, most), list(sess(63, most)), api.OK)
	l := list(sess(3, 5), sess(7, 9))
	wantNote(t, l, reply(0, 1), list(sess(0, 1), sess(3, 5), sess(7, 9)), api.OK)
	wantNote(t, l, reply(2, 5), list(sess(2, 5), sess(3, 5), sess(7, 9)), api.OK)
	wantNote(t, l, reply(4, 1), list(sess(3, 5), sess(4, 1), sess(7, 9)), api.OK)
	wantNote(t, l, reply(6, 20), list(sess(3, 5), sess(6, 20), sess(7, 9)), api.OK)
	wantNote(t, l, reply(8, 1), list(sess(3, 5), sess(7, 9), sess(8, 1)), api.OK)
	wantNote(t, l, reply(63, most), list(sess(3, 5), sess(7, 9), sess(63, most)), api.OK)
	for id := range clients {
		without := slices.Delete(full(), id, id+1)
		for _, seq := range []int{1, 2, 3000, most} {
			wantNote(t, without, reply(id, seq), slices.Insert(slices.Clone(without), id, sess(id, seq)), api.OK)
		}
	}
}

// P11.4: a later reply replaces the client's session, however much later it is and whatever it says.
func TestNoteLater(t *testing.T) {
	for _, right := range [][]api.Session{plain(), full(), list(sess(3, 5))} {
		for i, s := range right {
			for _, seq := range []int{s.Seq + 1, s.Seq + 2, most - 1, most} {
				if seq > s.Seq && seq <= most {
					want := slices.Clone(right)
					want[i] = sess(s.Client, seq)
					wantNote(t, right, reply(s.Client, seq), want, api.OK)
				}
			}
		}
	}
	for _, n := range numbers() {
		for _, r := range []api.Reply{{Client: 3, Seq: 6, Code: api.Errno(n)}, {Client: 3, Seq: 6, A: n}, {Client: 3, Seq: 6, B: n}} {
			wantNote(t, list(sess(1, 9), sess(3, 5), sess(4, 9)), r, list(sess(1, 9), of(r), sess(4, 9)), api.OK)
			wantNote(t, list(sess(1, 9), sess(4, 9)), r, list(sess(1, 9), of(r), sess(4, 9)), api.OK)
		}
	}
}

// P11.4, P11.6: neither the last command's reply nor an earlier one's can be noted, whatever it says.
func TestNoteOld(t *testing.T) {
	for _, right := range [][]api.Session{plain(), full(), list(sess(63, most))} {
		for _, s := range right {
			wantNote(t, right, s.Reply, right, api.ErrOld)
			wantNote(t, right, api.Reply{Client: s.Client, Seq: s.Seq}, right, api.ErrOld)
			for _, seq := range append(numbers(), s.Seq-1) {
				if seq >= 1 && seq <= s.Seq {
					wantNote(t, right, reply(s.Client, seq), right, api.ErrOld)
					wantNote(t, right, api.Reply{Client: s.Client, Seq: seq, A: 1}, right, api.ErrOld)
				}
			}
		}
	}
}

// P11.4: a list that is not valid, whatever the reply is, and it comes back as it was.
func TestNoteWrongList(t *testing.T) {
	for _, l := range append(wrongs(), odd()) {
		for _, r := range []api.Reply{reply(2, 1), reply(3, 1), reply(3, 5), reply(3, 99), reply(63, most), reply(64, 1), reply(3, 0), {}} {
			wantNote(t, l, r, l, api.ErrArg)
		}
	}
}

// P11.4: a reply that makes no valid session; ErrOld comes after that.
func TestNoteWrongReply(t *testing.T) {
	wantNote(t, nil, reply(64, 1), nil, api.ErrArg)
	wantNote(t, nil, api.Reply{}, nil, api.ErrArg)
	for _, l := range rights() {
		for _, n := range numbers() {
			for _, m := range []int{1, 5, 63, most} {
				if !isClient(n) {
					wantNote(t, l, reply(n, m), l, api.ErrArg)
				}
			}
			for _, id := range []int{0, 2, 3, 63} {
				if !isSeq(n) {
					wantNote(t, l, reply(id, n), l, api.ErrArg)
				}
			}
		}
	}
}

// P11.5, P11.6: the noted reply is found, earlier ones are old, it can't be noted again, and other clients' sessions are as they were.
func TestNoted(t *testing.T) {
	for _, l := range rights() {
		for id := range clients {
			seq := session.Last(l, id) + 3
			if seq > most {
				continue
			}
			r := reply(id, seq)
			noted, err := session.Note(l, r)
			if err != api.OK {
				t.Fatalf("Note(%v, %v): %d", l, r, err)
			}
			wantRight(t, noted, true)
			wantLook(t, noted, id, seq, r, api.OK)
			wantLook(t, noted, id, seq+1, api.Reply{}, api.ErrNone)
			for _, earlier := range []int{seq - 1, seq - 2, seq - 3, 1} {
				wantLook(t, noted, id, earlier, api.Reply{}, api.ErrOld)
				wantNote(t, noted, reply(id, max(earlier, 1)), noted, api.ErrOld)
			}
			wantNote(t, noted, r, noted, api.ErrOld)
			isOther := func(s api.Session) bool { return s.Client != id }
			if !same(only(noted, isOther), only(l, isOther)) {
				t.Errorf("Note(%v, %v) = %v", l, r, noted)
			}
		}
	}
}

// only is the sessions of l that keep.
func only(l []api.Session, keep func(api.Session) bool) []api.Session {
	kept := []api.Session{}
	for _, s := range l {
		if keep(s) {
			kept = append(kept, s)
		}
	}
	return kept
}

// wantModel wants the list to hold just the last replies, of which those with the Seq 0 are none.
func wantModel(t *testing.T, l []api.Session, last [clients]api.Reply) {
	t.Helper()
	want := []api.Session{}
	for id, r := range last {
		wantLast(t, l, id, r.Seq)
		if r.Seq == 0 {
			wantLook(t, l, id, 1, api.Reply{}, api.ErrNone)
			continue
		}
		want = append(want, of(r))
		wantLook(t, l, id, r.Seq, r, api.OK)
		wantLook(t, l, id, r.Seq-1, api.Reply{}, api.ErrOld)
		wantLook(t, l, id, r.Seq+1, api.Reply{}, api.ErrNone)
	}
	if !same(l, want) {
		t.Fatalf("%v, want %v", l, want)
	}
	wantRight(t, l, true)
}

// P11.1 to P11.6: many replies, of few clients and of many, held against a table of all clients; no command is noted twice.
func TestMany(t *testing.T) {
	for _, reach := range []int{1, 3, 64} {
		l, last, times, met := []api.Session(nil), [clients]api.Reply{}, map[[2]int]int{}, map[api.Errno]int{}
		picks := mixed(9000, 1<<20)
		for i := 0; i < len(picks); i += 3 {
			id := picks[i] % reach
			seq := last[id].Seq + picks[i+1]%5 - 2
			r := api.Reply{Client: id, Seq: seq, Code: api.Errno(picks[i+2] % 17), A: picks[i+2], B: i}
			want := api.OK
			if seq < 1 {
				want = api.ErrArg
			} else if seq <= last[id].Seq {
				want = api.ErrOld
			}
			noted, err := session.Note(l, r)
			if err != want {
				t.Fatalf("Note(%v, %v): %d, want %d", l, r, err, want)
			}
			met[err]++
			if err == api.OK {
				last[id] = r
				times[[2]int{id, seq}]++
			}
			l = noted
			wantModel(t, l, last)
		}
		for command, n := range times {
			if n != 1 {
				t.Errorf("command %v was noted %d times", command, n)
			}
		}
		// A run that seldom comes to one of them would hold nothing of it.
		if met[api.OK] < 100 || met[api.ErrOld] < 100 || reach == clients && met[api.ErrArg] < 10 {
			t.Errorf("%d clients: %v", reach, met)
		}
	}
}

// P11.4, R3: neither a list that is handed in nor what is behind its end is changed, with an error or without one.
func TestUnchanged(t *testing.T) {
	for _, l := range append(rights(), wrongs()...) {
		spare := slices.Repeat(list(sess(77, 77)), 4)
		room := append(slices.Clone(l), spare...)
		passed := room[:len(l):len(room)]
		for _, id := range numbers() {
			for _, seq := range []int{-1, 0, 1, 4, 5, 6, 3000, most, most + 1} {
				session.Note(passed, reply(id, seq))
				session.Look(passed, id, seq)
				session.Last(passed, id)
				session.Right(passed)
				if !same(room, append(slices.Clone(l), spare...)) {
					t.Fatalf("%v with %d and %d: %v is there", l, id, seq, room)
				}
			}
		}
	}
}

// scribble writes over all that l shares with others, and what is behind its end.
func scribble(l []api.Session) {
	for i := range l[:cap(l)] {
		l[:cap(l)][i] = sess(55, 55)
	}
}

// R3: a list that is told shares nothing with the one that was handed in, nor with an earlier one.
func TestNew(t *testing.T) {
	for id := range clients {
		spare := slices.Repeat(list(sess(77, 77)), 4)
		room := append(plain(), spare...)
		l := room[:len(plain()):len(room)]
		seq := session.Last(l, id) + 1
		if seq > most {
			continue
		}
		noted, err := session.Note(l, reply(id, seq))
		if err != api.OK {
			t.Fatalf("Note(%v, %v): %d", l, reply(id, seq), err)
		}
		again, _ := session.Note(l, reply(id, seq))
		want := slices.Clone(again)
		scribble(noted)
		if !same(room, append(plain(), spare...)) || !same(again, want) {
			t.Fatalf("%v and %v, want %v and %v", room, again, plain(), want)
		}
	}
}

// R4: the same answer each time.
func TestAgain(t *testing.T) {
	want, _ := session.Note(full(), reply(30, most))
	for range 20 {
		wantNote(t, full(), reply(30, most), want, api.OK)
		wantNote(t, full(), reply(30, 1), full(), api.ErrOld)
		wantLook(t, full(), 30, 1800, reply(30, 1800), api.OK)
	}
}

// R1: no call panics, whatever it is given.
func TestNoPanic(t *testing.T) {
	for _, l := range append(append(rights(), wrongs()...), odd()) {
		for _, m := range numbers() {
			for _, n := range numbers() {
				session.Note(l, api.Reply{Client: m, Seq: n, Code: api.Errno(n), A: m, B: n})
				session.Look(l, m, n)
				session.Right(append(slices.Clone(l), sess(m, n)))
			}
			session.Last(l, m)
		}
	}
}

// R1: a call ends soon for very many sessions too, which aren't valid.
func TestVeryMany(t *testing.T) {
	l := slices.Repeat(list(sess(64, 1)), 1000000)
	l[0], l[len(l)-1] = sess(0, 1), sess(5, 7)
	wantLast(t, l[len(l)/2:], 5, 7)
	if r, err := session.Look(l, 5, 7); r != reply(5, 7) || err != api.OK {
		t.Errorf("Look = %v, %d", r, err)
	}
	if session.Right(l) {
		t.Error("Right")
	}
	if got, err := session.Note(l, reply(5, 8)); !same(got, l) || err != api.ErrArg {
		t.Errorf("Note: %d sessions, %d", len(got), err)
	}
}
