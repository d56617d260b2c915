package acceptor_test

import (
	"fmt"
	"math"
	"slices"
	"testing"

	"cambist/acceptor"
	"cambist/api"
	"cambist/command"
	"cambist/instance"
	"cambist/record"
	"cambist/vector"
)

// The limits by the chapters' own figures.
const (
	mostSize   = 7
	mostSlot   = 400
	mostBallot = 1073741824
)

// numbers are ints of all sorts: the least and the greatest ones, and those about each limit.
func numbers() []int {
	return []int{
		math.MinInt, math.MinInt + 1, math.MinInt32, -mostBallot, -401, -2, -1, 0, 1, 2, 3, 4, 5, 6, 7, 8, 9, 399, 400, 401,
		mostBallot - 2, mostBallot - 1, mostBallot, mostBallot + 1, math.MaxInt32, 1 << 32, math.MaxInt - 1, math.MaxInt,
	}
}

// asks are the kinds of messages to which a replica may respond.
func asks() []int {
	return []int{api.MsgPre, api.MsgAccept, api.MsgPrepare}
}

// leaders are the kinds of messages of a leader.
func leaders() []int {
	return append(asks(), api.MsgCommit)
}

// dice tells numbers that look thrown, the same ones at each run.
type dice uint64

func (d *dice) below(n int) int {
	*d = *d*6364136223846793005 + 1442695040888963407
	return int(*d>>33) % n
}

// of tells one of l.
func (d *dice) of(l ...int) int {
	return l[d.below(len(l))]
}

// ballot is one of few, so that many are the same.
func (d *dice) ballot() api.Ballot {
	return api.Ballot{Number: d.of(0, 0, 1, 2, mostBallot), Replica: d.below(3)}
}

// value is one that may be, of few commands, of which many interfere.
func (d *dice) value(size int) api.Value {
	v := api.Value{Seq: d.of(0, 1, 2, 3, 9, mostBallot-1, mostBallot)}
	switch d.below(5) {
	case 0:
	case 1:
		v.Cmd = limit(d.below(3), d.below(2))
	default:
		v.Cmd = deposit(d.below(3))
	}
	for range d.below(3) {
		v.Deps[d.below(size)] = d.of(1, 2, 3, mostSlot)
	}
	return v
}

// instance is one that may be, of that place.
func (d *dice) instance(p api.Place, size int) api.Instance {
	a, b := d.ballot(), d.ballot()
	if before(a, b) {
		a, b = b, a
	}
	i := api.Instance{Place: p, Promised: a, Status: d.below(4)}
	if i.Status != api.InsNone {
		i.Taken, i.Value, i.Same = b, d.value(size), d.below(2) == 0
	}
	return i
}

// table is one that may be.
func (d *dice) table(size int) []api.Instance {
	l := []api.Instance{}
	for replica := range size {
		for slot := 1; slot <= 3; slot++ {
			if d.below(2) == 0 {
				l = append(l, d.instance(place(replica, slot), size))
			}
		}
	}
	return l
}

// message is one of a leader that may be; often its value is the one that l has of the place.
func (d *dice) message(l []api.Instance, size int) api.Msg {
	m := api.Msg{
		Kind: d.of(leaders()...), From: d.below(size), To: d.below(size),
		Place: place(d.below(size), 1+d.below(3)), Ballot: d.ballot(), Value: d.value(size),
		// What a leader's message says beside its value doesn't count.
		Status: d.below(4), Taken: d.ballot(), Same: d.below(2) == 0,
	}
	if i, found := instance.Get(l, m.Place); found && d.below(2) == 0 {
		m.Value = i.Value
		if d.below(2) == 0 {
			m.Ballot = i.Taken
		}
	}
	return m
}

func deposit(client int) api.Cmd {
	return api.Cmd{Kind: api.CmdDeposit, Client: client, Seq: 1, Qty: 5}
}

// limit is a command that works on its client's account and on a lane.
func limit(client, lane int) api.Cmd {
	return api.Cmd{Kind: api.CmdLimit, Client: client, Seq: 1, Lane: lane, Side: api.Buy, Price: 2, Qty: 5}
}

func place(replica, slot int) api.Place {
	return api.Place{Replica: replica, Slot: slot}
}

func ballot(number, replica int) api.Ballot {
	return api.Ballot{Number: number, Replica: replica}
}

// valued is a value of a deposit.
func valued(client, seq int, deps ...int) api.Value {
	v := api.Value{Cmd: deposit(client), Seq: seq}
	copy(v.Deps[:], deps)
	return v
}

// at is an instance of which that ballot is the promised one and the one by which v was taken.
func at(replica, slot int, b api.Ballot, status int, v api.Value) api.Instance {
	return api.Instance{Place: place(replica, slot), Promised: b, Taken: b, Status: status, Value: v}
}

func promised(i api.Instance, b api.Ballot) api.Instance {
	i.Promised = b
	return i
}

func unchanged(i api.Instance) api.Instance {
	i.Same = true
	return i
}

// ask is a message from replica 1 to replica 2 about the place (0, 1).
func ask(kind int, b api.Ballot, v api.Value) api.Msg {
	return api.Msg{Kind: kind, From: 1, To: 2, Place: place(0, 1), Ballot: b, Value: v}
}

// answer is what goes back to m, as long as nothing else is stated.
func answer(m api.Msg, kind int, state api.Instance) api.Msg {
	return api.Msg{
		Kind: kind, From: m.To, To: m.From, Place: m.Place, Ballot: m.Ballot,
		Value: state.Value, Status: state.Status, Taken: state.Taken, Same: state.Same,
	}
}

// nack is what goes back to m where b is promised.
func nack(m api.Msg, b api.Ballot) api.Msg {
	return api.Msg{Kind: api.MsgNack, From: m.To, To: m.From, Place: m.Place, Ballot: b, Taken: m.Ballot}
}

// before is the order of ballots once more.
func before(a, b api.Ballot) bool {
	return slices.Compare([]int{a.Number, a.Replica}, []int{b.Number, b.Replica}) < 0
}

// of is what l has of a place.
func of(l []api.Instance, p api.Place) api.Instance {
	at := slices.IndexFunc(l, func(i api.Instance) bool { return i.Place == p })
	if at < 0 {
		return api.Instance{Place: p}
	}
	return l[at]
}

// meeting are the instances of l with which the command of m interferes.
func meeting(l []api.Instance, m api.Msg) []api.Instance {
	return slices.DeleteFunc(slices.Clone(l), func(i api.Instance) bool {
		return i.Place == m.Place || i.Status == api.InsNone || !command.Meets(i.Value.Cmd, m.Value.Cmd)
	})
}

// proposed is the state behind a MsgPre that is heard first.
func proposed(l []api.Instance, m api.Msg) api.Instance {
	v := m.Value
	if v.Cmd.Kind != api.CmdNone {
		v.Seq = max(v.Seq, 1)
	}
	for _, i := range meeting(l, m) {
		v.Seq = max(v.Seq, min(i.Value.Seq+1, mostBallot))
		v.Deps[i.Place.Replica] = max(v.Deps[i.Place.Replica], i.Place.Slot)
	}
	return api.Instance{Place: m.Place, Promised: m.Ballot, Taken: m.Ballot, Status: 1, Value: v, Same: fmt.Sprint(v) == fmt.Sprint(m.Value)}
}

// heard is what Hear has to tell of a message that may be, in a table that may be.
func heard(l []api.Instance, m api.Msg) (api.Instance, api.Msg, bool) {
	i := of(l, m.Place)
	settled, stale, taken := i.Status == 3, before(m.Ballot, i.Promised), i.Taken == m.Ballot && i.Status > 0
	switch {
	case m.Kind == api.MsgCommit && settled:
		return i, api.Msg{}, false
	case m.Kind == api.MsgCommit && stale:
		return promised(at(m.Place.Replica, m.Place.Slot, m.Ballot, 3, m.Value), i.Promised), api.Msg{}, false
	case m.Kind == api.MsgCommit:
		return at(m.Place.Replica, m.Place.Slot, m.Ballot, 3, m.Value), api.Msg{}, false
	case settled:
		return i, answer(m, api.MsgCommit, i), true
	case stale:
		return i, nack(m, i.Promised), true
	case m.Kind == api.MsgPrepare:
		return promised(i, m.Ballot), answer(m, api.MsgPrepOk, i), true
	case m.Kind == api.MsgAccept:
		state := at(m.Place.Replica, m.Place.Slot, m.Ballot, 2, m.Value)
		return state, answer(m, api.MsgAcceptOk, state), true
	case taken && i.Status == 1:
		return i, answer(m, api.MsgPreOk, i), true
	case taken:
		return i, api.Msg{}, false
	}
	state := proposed(l, m)
	return state, answer(m, api.MsgPreOk, state), true
}

func wantHear(t *testing.T, l []api.Instance, size int, m api.Msg, state api.Instance, r api.Msg, is bool, err api.Errno) {
	t.Helper()
	i, a, has, e := acceptor.Hear(l, size, m)
	if i != state || a != r || has != is || e != err {
		t.Errorf("Hear(%v, %d, %v):\n%v %v %v %v, want\n%v %v %v %v", l, size, m, i, a, has, e, state, r, is, err)
	}
}

// wantAnswer wants that m, of three replicas, leaves state and is answered by r.
func wantAnswer(t *testing.T, l []api.Instance, m api.Msg, state api.Instance, r api.Msg) {
	t.Helper()
	wantHear(t, l, 3, m, state, r, true, api.OK)
}

// wantSilence wants that m, of three replicas, leaves state and isn't answered.
func wantSilence(t *testing.T, l []api.Instance, m api.Msg, state api.Instance) {
	t.Helper()
	wantHear(t, l, 3, m, state, api.Msg{}, false, api.OK)
}

// wantRefused wants that m is wrong, whatever it says beside, and that what l knows of its place is told.
func wantRefused(t *testing.T, l []api.Instance, size int, m api.Msg) {
	t.Helper()
	wantHear(t, l, size, m, of(l, m.Place), api.Msg{}, false, api.ErrArg)
	m.Status, m.Taken, m.Same = api.InsPre, m.Ballot, !m.Same
	wantHear(t, l, size, m, of(l, m.Place), api.Msg{}, false, api.ErrArg)
}

// P19.1: the status alone decides.
func TestSettled(t *testing.T) {
	for _, status := range numbers() {
		bare := api.Instance{Status: status}
		full := unchanged(promised(at(1, 2, ballot(3, 3), status, valued(3, 3)), ballot(9, 1)))
		if acceptor.Settled(bare) != (status == 3) || acceptor.Settled(full) != (status == 3) {
			t.Errorf("Settled with the status %d: %v %v", status, acceptor.Settled(bare), acceptor.Settled(full))
		}
	}
}

// P19.2: a ballot is too late if a greater one was promised; the one by which the value was taken doesn't count.
func TestStale(t *testing.T) {
	all := []api.Ballot{}
	for _, n := range numbers() {
		for _, r := range []int{math.MinInt, -1, 0, 1, 6, 7, math.MaxInt} {
			all = append(all, ballot(n, r))
		}
	}
	for _, a := range all {
		for _, b := range all {
			i := api.Instance{Promised: a, Taken: b, Status: b.Number}
			if acceptor.Stale(i, b) != before(b, a) {
				t.Errorf("Stale with %v promised, for %v: %v", a, b, !before(b, a))
			}
			if acceptor.Stale(i, a) {
				t.Errorf("Stale for %v, which is what was promised", a)
			}
		}
	}
}

// P19.3: the chapter's example, from one message to the next.
func TestHearExample(t *testing.T) {
	v := valued(1, 1)
	first, second := ask(api.MsgPre, ballot(0, 0), v), ask(api.MsgPrepare, ballot(2, 1), api.Value{})
	pre := unchanged(at(0, 1, ballot(0, 0), api.InsPre, v))
	wantAnswer(t, nil, first, pre, api.Msg{Kind: api.MsgPreOk, From: 2, To: 1, Place: place(0, 1), Value: v, Status: api.InsPre, Same: true})
	l := []api.Instance{pre}
	prepared := promised(pre, ballot(2, 1))
	wantAnswer(t, l, second, prepared, api.Msg{Kind: api.MsgPrepOk, From: 2, To: 1, Place: place(0, 1), Ballot: ballot(2, 1), Value: v, Status: api.InsPre, Same: true})
	l = []api.Instance{prepared}
	wantAnswer(t, l, first, prepared, api.Msg{Kind: api.MsgNack, From: 2, To: 1, Place: place(0, 1), Ballot: ballot(2, 1)})
	third := ask(api.MsgAccept, ballot(2, 1), v)
	accepted := at(0, 1, ballot(2, 1), api.InsAccepted, v)
	wantAnswer(t, l, third, accepted, api.Msg{Kind: api.MsgAcceptOk, From: 2, To: 1, Place: place(0, 1), Ballot: ballot(2, 1), Value: v, Status: api.InsAccepted, Taken: ballot(2, 1)})
	l = []api.Instance{accepted}
	committed := at(0, 1, ballot(2, 1), api.InsCommitted, v)
	wantSilence(t, l, ask(api.MsgCommit, ballot(2, 1), v), committed)
	l = []api.Instance{committed}
	wantAnswer(t, l, first, committed, api.Msg{Kind: api.MsgCommit, From: 2, To: 1, Place: place(0, 1), Value: v, Status: api.InsCommitted, Taken: ballot(2, 1)})
	wantRefused(t, l, 3, ask(api.MsgNack, ballot(2, 1), v))
}

// P19.3: a value that is agreed on is taken whatever was known and promised, and the later promise stays.
func TestCommit(t *testing.T) {
	v, w := valued(1, 4, 0, 2), valued(2, 7, 3)
	m := ask(api.MsgCommit, ballot(1, 1), v)
	want := at(0, 1, ballot(1, 1), api.InsCommitted, v)
	wantSilence(t, nil, m, want)
	for _, b := range []api.Ballot{ballot(0, 0), ballot(0, 6), ballot(1, 0), ballot(1, 1)} {
		wantSilence(t, []api.Instance{{Place: place(0, 1), Promised: b}}, m, want)
		wantSilence(t, []api.Instance{unchanged(at(0, 1, b, api.InsPre, w))}, m, want)
		wantSilence(t, []api.Instance{unchanged(at(0, 1, b, api.InsPre, v))}, m, want)
		wantSilence(t, []api.Instance{at(0, 1, b, api.InsAccepted, w)}, m, want)
	}
	for _, b := range []api.Ballot{ballot(1, 2), ballot(2, 0), ballot(mostBallot, 6)} {
		wantSilence(t, []api.Instance{{Place: place(0, 1), Promised: b}}, m, promised(want, b))
		wantSilence(t, []api.Instance{unchanged(at(0, 1, b, api.InsPre, w))}, m, promised(want, b))
		wantSilence(t, []api.Instance{promised(at(0, 1, ballot(0, 3), api.InsAccepted, w), b)}, m, promised(want, b))
	}
	wantSilence(t, nil, ask(api.MsgCommit, ballot(0, 0), api.Value{}), at(0, 1, ballot(0, 0), api.InsCommitted, api.Value{}))
}

// P19.3: what the message says beside its place, ballot and value is not stored.
func TestOnlyTheValueIsStored(t *testing.T) {
	v := valued(1, 4, 0, 2)
	for _, kind := range leaders() {
		plain := ask(kind, ballot(1, 1), v)
		full := plain
		full.Status, full.Taken, full.Same = api.InsCommitted, ballot(7, 5), true
		for _, l := range [][]api.Instance{nil, {at(0, 1, ballot(0, 0), api.InsPre, valued(2, 7))}} {
			state, r, is, err := acceptor.Hear(l, 3, plain)
			wantHear(t, l, 3, full, state, r, is, err)
		}
	}
}

// P19.3: what is settled stays, whatever is heard of it; whoever asks is told.
func TestSettledStays(t *testing.T) {
	v, w := valued(1, 4, 0, 2), valued(2, 7, 3)
	settled := []api.Instance{
		at(0, 1, ballot(1, 1), api.InsCommitted, v),
		promised(at(0, 1, ballot(1, 1), api.InsCommitted, v), ballot(5, 0)),
		unchanged(promised(at(0, 1, ballot(1, 1), api.InsCommitted, v), ballot(1, 2))),
		at(0, 1, ballot(0, 0), api.InsCommitted, api.Value{}),
	}
	for _, i := range settled {
		for _, b := range []api.Ballot{ballot(0, 0), ballot(1, 1), ballot(1, 2), ballot(9, 0)} {
			l := []api.Instance{i, at(1, 1, ballot(0, 1), api.InsPre, w)}
			wantSilence(t, l, ask(api.MsgCommit, b, w), i)
			for _, kind := range asks() {
				m := ask(kind, b, w)
				wantAnswer(t, l, m, i, api.Msg{
					Kind: api.MsgCommit, From: 2, To: 1, Place: place(0, 1), Ballot: b,
					Value: i.Value, Status: api.InsCommitted, Taken: i.Taken, Same: i.Same,
				})
			}
		}
	}
}

// P19.3: a ballot below the promised one is refused, with the promised one beside it and nothing of the instance.
func TestNack(t *testing.T) {
	v := valued(1, 4, 0, 2)
	states := []api.Instance{
		{Place: place(0, 1), Promised: ballot(2, 1)},
		unchanged(promised(at(0, 1, ballot(0, 0), api.InsPre, v), ballot(2, 1))),
		at(0, 1, ballot(2, 1), api.InsPre, v),
		promised(at(0, 1, ballot(1, 4), api.InsAccepted, v), ballot(2, 1)),
		at(0, 1, ballot(2, 1), api.InsAccepted, v),
	}
	for _, i := range states {
		for _, kind := range asks() {
			for _, b := range []api.Ballot{ballot(0, 0), ballot(1, 4), ballot(1, 6), ballot(2, 0)} {
				m := ask(kind, b, v)
				wantAnswer(t, []api.Instance{i}, m, i, api.Msg{Kind: api.MsgNack, From: 2, To: 1, Place: place(0, 1), Ballot: ballot(2, 1), Taken: b})
			}
			for _, b := range []api.Ballot{ballot(2, 1), ballot(2, 2), ballot(3, 0)} {
				if _, r, _, _ := acceptor.Hear([]api.Instance{i}, 3, ask(kind, b, v)); r.Kind == api.MsgNack {
					t.Errorf("%v is refused by %v, though it isn't less than what was promised", b, i)
				}
			}
		}
	}
}

// P19.3: a proposal is taken with what the replica knows beside it, and is the same if that adds nothing.
func TestPre(t *testing.T) {
	l := []api.Instance{at(1, 2, ballot(0, 1), api.InsPre, valued(1, 4)), at(2, 3, ballot(0, 2), api.InsCommitted, valued(2, 9))}
	proposals := []struct {
		v    api.Value
		seq  int
		deps api.Vector
		same bool
	}{
		{valued(1, 1), 5, api.Vector{0, 2}, false},
		{valued(1, 5), 5, api.Vector{0, 2}, false},
		{valued(1, 4, 0, 2), 5, api.Vector{0, 2}, false},
		{valued(1, 5, 0, 2), 5, api.Vector{0, 2}, true},
		{valued(1, 8, 0, 2), 8, api.Vector{0, 2}, true},
		{valued(1, 5, 0, 1), 5, api.Vector{0, 2}, false},
		{valued(1, 5, 0, 3), 5, api.Vector{0, 3}, true},
		{valued(1, 5, 0, 0, 1), 5, api.Vector{0, 2, 1}, false},
		{valued(1, 8, 4, 2, 400), 8, api.Vector{4, 2, 400}, true},
		{valued(3, 1), 1, api.Vector{}, true},
		{valued(3, 0), 1, api.Vector{}, false},
		{valued(2, 2), 10, api.Vector{0, 0, 3}, false},
		{api.Value{}, 0, api.Vector{}, true},
		{api.Value{Seq: 3, Deps: api.Vector{1}}, 3, api.Vector{1}, true},
	}
	for _, p := range proposals {
		for _, b := range []api.Ballot{ballot(0, 0), ballot(0, 1), ballot(3, 2)} {
			m := ask(api.MsgPre, b, p.v)
			want := at(0, 1, b, api.InsPre, api.Value{Cmd: p.v.Cmd, Seq: p.seq, Deps: p.deps})
			want.Same = p.same
			wantAnswer(t, l, m, want, answer(m, api.MsgPreOk, want))
		}
	}
}

// P19.3: an instance of the very place adds nothing, and neither does one that is promised alone, or one that doesn't interfere.
func TestPreConsidersOthersAlone(t *testing.T) {
	l := []api.Instance{
		promised(at(0, 1, ballot(0, 0), api.InsPre, valued(1, 8, 0, 0, 7)), ballot(1, 1)),
		{Place: place(0, 2), Promised: ballot(1, 1)},
		at(1, 1, ballot(0, 1), api.InsAccepted, valued(2, 9)),
		at(1, 2, ballot(0, 1), api.InsAccepted, api.Value{Cmd: limit(2, 1), Seq: 6}),
	}
	m := ask(api.MsgPre, ballot(1, 1), valued(1, 1))
	want := unchanged(at(0, 1, ballot(1, 1), api.InsPre, valued(1, 1)))
	wantAnswer(t, l, m, want, answer(m, api.MsgPreOk, want))
	m.Value.Cmd = limit(3, 1)
	want = at(0, 1, ballot(1, 1), api.InsPre, api.Value{Cmd: limit(3, 1), Seq: 7, Deps: api.Vector{0, 2}})
	wantAnswer(t, l, m, want, answer(m, api.MsgPreOk, want))
}

// P19.3: a number that would be above the greatest one isn't.
func TestPreAtTheLimits(t *testing.T) {
	for _, seq := range []int{mostBallot - 1, mostBallot} {
		l := []api.Instance{at(1, mostSlot, ballot(mostBallot, 6), api.InsPre, valued(1, seq))}
		m := ask(api.MsgPre, ballot(mostBallot, 6), valued(1, 2))
		want := at(0, 1, ballot(mostBallot, 6), api.InsPre, valued(1, mostBallot, 0, mostSlot))
		wantAnswer(t, l, m, want, answer(m, api.MsgPreOk, want))
	}
	m := ask(api.MsgPre, ballot(mostBallot, 6), valued(1, mostBallot, mostSlot, mostSlot, mostSlot))
	m.Place = place(2, mostSlot)
	want := unchanged(at(2, mostSlot, ballot(mostBallot, 6), api.InsPre, m.Value))
	wantAnswer(t, nil, m, want, answer(m, api.MsgPreOk, want))
}

// P19.3: of a proposal that was taken by the ballot, the state is told again, whatever came in between.
func TestPreAgain(t *testing.T) {
	other := at(1, 2, ballot(0, 1), api.InsPre, valued(1, 4))
	for _, b := range []api.Ballot{ballot(0, 0), ballot(0, 2), ballot(4, 1)} {
		for _, i := range []api.Instance{at(0, 1, b, api.InsPre, valued(1, 7, 3)), unchanged(at(0, 1, b, api.InsPre, valued(1, 1)))} {
			for _, v := range []api.Value{i.Value, valued(1, 1), valued(2, 9, 1, 1, 1), {}} {
				m := ask(api.MsgPre, b, v)
				wantAnswer(t, []api.Instance{i, other}, m, i, answer(m, api.MsgPreOk, i))
			}
		}
	}
}

// P19.3: a proposal that comes behind the accepting by its ballot is not answered.
func TestPreBehindAccept(t *testing.T) {
	for _, b := range []api.Ballot{ballot(0, 0), ballot(4, 1)} {
		i := at(0, 1, b, api.InsAccepted, valued(1, 7, 3))
		wantSilence(t, []api.Instance{i}, ask(api.MsgPre, b, i.Value), i)
		wantSilence(t, []api.Instance{i}, ask(api.MsgPre, b, valued(2, 1)), i)
	}
}

// P19.3: a proposal by a ballot by which nothing was taken is taken anew, of an accepted instance as well, and of one of which nothing was taken though its ballot is the same.
func TestPreAnew(t *testing.T) {
	v, w := valued(1, 1), valued(2, 7, 3)
	states := []api.Instance{
		{Place: place(0, 1)},
		{Place: place(0, 1), Promised: ballot(1, 1)},
		at(0, 1, ballot(0, 0), api.InsPre, w),
		unchanged(promised(at(0, 1, ballot(0, 0), api.InsPre, w), ballot(1, 1))),
		at(0, 1, ballot(0, 0), api.InsAccepted, w),
		promised(at(0, 1, ballot(1, 0), api.InsAccepted, w), ballot(1, 1)),
	}
	for _, i := range states {
		for _, b := range []api.Ballot{ballot(1, 1), ballot(1, 2), ballot(2, 0)} {
			m := ask(api.MsgPre, b, v)
			want := unchanged(at(0, 1, b, api.InsPre, v))
			wantAnswer(t, []api.Instance{i}, m, want, answer(m, api.MsgPreOk, want))
		}
	}
	m := ask(api.MsgPre, ballot(0, 0), v)
	want := unchanged(at(0, 1, ballot(0, 0), api.InsPre, v))
	wantAnswer(t, states[:1], m, want, answer(m, api.MsgPreOk, want))
}

// P19.3: a value to be accepted is stored as it is, whatever the replica knows of others, and also a second one by the same ballot.
func TestAccept(t *testing.T) {
	v, w := valued(1, 1), valued(2, 7, 3)
	states := []api.Instance{
		{Place: place(0, 1)},
		{Place: place(0, 1), Promised: ballot(1, 1)},
		unchanged(at(0, 1, ballot(1, 1), api.InsPre, v)),
		at(0, 1, ballot(1, 1), api.InsPre, w),
		at(0, 1, ballot(1, 1), api.InsAccepted, w),
		promised(at(0, 1, ballot(0, 4), api.InsAccepted, w), ballot(1, 0)),
	}
	for _, i := range states {
		for _, b := range []api.Ballot{ballot(1, 1), ballot(2, 0)} {
			for _, value := range []api.Value{v, {}} {
				m := ask(api.MsgAccept, b, value)
				want := at(0, 1, b, api.InsAccepted, value)
				l := []api.Instance{i, at(1, 2, ballot(0, 1), api.InsPre, valued(1, 4))}
				wantAnswer(t, l, m, want, answer(m, api.MsgAcceptOk, want))
			}
		}
	}
}

// P19.3: who prepares is promised its ballot, and told what is known; its value isn't taken.
func TestPrepare(t *testing.T) {
	v, w := valued(1, 1), valued(2, 7, 3)
	states := []api.Instance{
		{Place: place(0, 1)},
		{Place: place(0, 1), Promised: ballot(1, 1)},
		unchanged(at(0, 1, ballot(1, 1), api.InsPre, v)),
		at(0, 1, ballot(1, 1), api.InsPre, v),
		at(0, 1, ballot(1, 1), api.InsAccepted, v),
		promised(at(0, 1, ballot(0, 4), api.InsAccepted, v), ballot(1, 0)),
	}
	for _, i := range states {
		for _, b := range []api.Ballot{ballot(1, 1), ballot(1, 2), ballot(mostBallot, 6)} {
			m := ask(api.MsgPrepare, b, w)
			wantAnswer(t, []api.Instance{i}, m, promised(i, b), answer(m, api.MsgPrepOk, i))
		}
	}
	m := ask(api.MsgPrepare, ballot(0, 0), api.Value{})
	wantAnswer(t, nil, m, api.Instance{Place: place(0, 1)}, api.Msg{Kind: api.MsgPrepOk, From: 2, To: 1, Place: place(0, 1)})
}

// P19.3: a response goes back from where the message went to, whoever these are.
func TestHearGoesBack(t *testing.T) {
	for _, from := range numbers() {
		for _, to := range numbers() {
			for _, kind := range asks() {
				for _, l := range [][]api.Instance{nil, {at(0, 1, ballot(5, 0), api.InsPre, valued(1, 1))}, {at(0, 1, ballot(0, 0), api.InsCommitted, valued(1, 1))}} {
					m := ask(kind, ballot(1, 1), valued(1, 1))
					m.From, m.To = from, to
					if _, r, is, err := acceptor.Hear(l, 3, m); !is || err != api.OK || r.From != to || r.To != from {
						t.Errorf("Hear(%v, 3, %v): %v %v %v", l, m, r, is, err)
					}
				}
			}
		}
	}
}

// P19.3: kinds that are none of a leader's are wrong, of a settled instance as well, and the known state is told.
func TestHearWrongKinds(t *testing.T) {
	tables := [][]api.Instance{nil, {at(0, 1, ballot(3, 0), api.InsPre, valued(1, 1))}, {at(0, 1, ballot(0, 0), api.InsCommitted, valued(1, 1))}}
	for _, kind := range numbers() {
		if slices.Contains([]int{1, 3, 5, 6}, kind) {
			continue
		}
		for _, l := range tables {
			wantRefused(t, l, 3, ask(kind, ballot(1, 1), valued(1, 1)))
		}
	}
}

// fields are the numbers of a message that have to be those of an instance.
func fields() []func(m *api.Msg) *int {
	l := []func(m *api.Msg) *int{
		func(m *api.Msg) *int { return &m.Place.Replica },
		func(m *api.Msg) *int { return &m.Place.Slot },
		func(m *api.Msg) *int { return &m.Ballot.Number },
		func(m *api.Msg) *int { return &m.Ballot.Replica },
		func(m *api.Msg) *int { return &m.Value.Seq },
		func(m *api.Msg) *int { return &m.Value.Cmd.Kind },
		func(m *api.Msg) *int { return &m.Value.Cmd.Client },
		func(m *api.Msg) *int { return &m.Value.Cmd.Qty },
	}
	for replica := range mostSize {
		l = append(l, func(m *api.Msg) *int { return &m.Value.Deps[replica] })
	}
	return l
}

// P19.3: place, ballot and value have to be those of an instance that may be, for each kind of message.
func TestHearWrongMessages(t *testing.T) {
	refused, heeded := 0, 0
	for size := 1; size <= mostSize; size++ {
		for _, field := range fields() {
			for _, n := range numbers() {
				for _, kind := range leaders() {
					m := ask(kind, ballot(1, 1), valued(1, 1))
					*field(&m) = n
					l := []api.Instance{at(0, 1, ballot(0, 0), api.InsPre, valued(2, 1)), at(0, 2, ballot(0, 0), api.InsPre, valued(1, 3))}
					i := api.Instance{Place: m.Place, Promised: m.Ballot, Taken: m.Ballot, Status: 1, Value: m.Value}
					if !record.Right(i, size) {
						refused++
						wantRefused(t, l, size, m)
						continue
					}
					heeded++
					state, r, is := heard(l, m)
					wantHear(t, l, size, m, state, r, is, api.OK)
				}
			}
		}
	}
	if refused < 1000 || heeded < 1000 {
		t.Errorf("only %d are refused, and %d heeded", refused, heeded)
	}
}

// P19.3: the replica of a ballot may be one that the cluster hasn't, as record.Right says.
func TestHearBallotOfAnyReplica(t *testing.T) {
	m := ask(api.MsgAccept, ballot(0, 6), valued(1, 1))
	want := at(0, 1, ballot(0, 6), api.InsAccepted, valued(1, 1))
	wantHear(t, nil, 1, m, want, answer(m, api.MsgAcceptOk, want), true, api.OK)
	m.Ballot.Replica = 7
	wantRefused(t, nil, 1, m)
}

// P19.3: a message that says what its kind needn't is wrong all the same: a MsgPrepare has to have a value that may be.
func TestHearPrepareNeedsAValue(t *testing.T) {
	m := ask(api.MsgPrepare, ballot(1, 1), api.Value{Seq: -1})
	wantRefused(t, nil, 3, m)
	m.Value = api.Value{Cmd: api.Cmd{Client: 1}}
	wantRefused(t, nil, 3, m)
	m.Value = api.Value{Deps: api.Vector{0, 0, 0, 1}}
	wantRefused(t, nil, 3, m)
	wantHear(t, nil, 4, m, api.Instance{Place: place(0, 1), Promised: ballot(1, 1)}, answer(m, api.MsgPrepOk, api.Instance{}), true, api.OK)
}

// P19.3: a size that is none is wrong, for a table of no instances as well.
func TestHearWrongSizes(t *testing.T) {
	for _, size := range numbers() {
		for _, kind := range leaders() {
			m := ask(kind, ballot(1, 1), valued(1, 1))
			for _, l := range [][]api.Instance{nil, {at(0, 1, ballot(2, 2), api.InsPre, valued(1, 1))}} {
				if size < 1 || size > mostSize {
					wantRefused(t, l, size, m)
					continue
				}
				state, r, is := heard(l, m)
				wantHear(t, l, size, m, state, r, is, api.OK)
			}
		}
	}
}

// P19.3: a table that may not be is wrong, wherever it is spoilt; the first instance of the place is told.
func TestHearWrongTables(t *testing.T) {
	a, b, c := at(0, 1, ballot(0, 0), api.InsPre, valued(1, 1)), at(0, 2, ballot(0, 0), api.InsCommitted, valued(1, 2)), at(2, 1, ballot(0, 2), api.InsAccepted, valued(3, 1))
	spoilt := a
	spoilt.Status = 4
	backwards := b
	backwards.Taken = ballot(1, 0)
	far := c
	far.Place.Replica = 3
	tables := [][]api.Instance{
		{b, a}, {a, a}, {a, promised(a, ballot(1, 1)), b}, {promised(a, ballot(1, 1)), a}, {c, a}, {a, c, b},
		{spoilt}, {spoilt, b, c}, {a, backwards, c}, {a, b, far}, {far}, {{Place: place(0, 1), Same: true}}, {{}},
	}
	for _, l := range tables {
		for _, kind := range leaders() {
			for _, p := range []api.Place{place(0, 1), place(0, 2), place(2, 1), place(1, 1)} {
				m := ask(kind, ballot(1, 1), valued(1, 1))
				m.Place = p
				wantRefused(t, l, 3, m)
			}
		}
	}
}

// P19.3: in any table that may be, and of any message that may be.
func TestHearInAnyTable(t *testing.T) {
	d := dice(1)
	kinds := map[int]int{}
	for range 40000 {
		size := 1 + d.below(mostSize)
		l := d.table(size)
		m := d.message(l, size)
		state, r, is := heard(l, m)
		wantHear(t, l, size, m, state, r, is, api.OK)
		kinds[r.Kind]++
	}
	for _, kind := range []int{0, api.MsgPreOk, api.MsgAcceptOk, api.MsgCommit, api.MsgPrepOk, api.MsgNack} {
		if kinds[kind] < 500 {
			t.Errorf("only %d responses are of the kind %d", kinds[kind], kind)
		}
	}
}

// step is a message in a table, and what Hear told.
type step struct {
	l     []api.Instance
	size  int
	m     api.Msg
	known api.Instance
	state api.Instance
	r     api.Msg
	is    bool
}

// eachStep has each replica's table grow by many messages, and visits all steps.
func eachStep(t *testing.T, seed uint64, visit func(s step)) {
	t.Helper()
	d := dice(seed)
	for range 100 {
		size := 1 + d.below(mostSize)
		l := []api.Instance{}
		for range 100 {
			s := step{l: l, size: size, m: d.message(l, size)}
			s.known = of(l, s.m.Place)
			err := api.OK
			s.state, s.r, s.is, err = acceptor.Hear(l, size, s.m)
			if err != api.OK {
				t.Fatalf("Hear(%v, %d, %v): %v", l, size, s.m, err)
			}
			visit(s)
			l = instance.Put(l, s.state)
		}
	}
}

// P19.4: what was promised never becomes less, what is settled stays as it is, and what is told may be stored.
func TestPromisesAreKept(t *testing.T) {
	eachStep(t, 2, func(s step) {
		if before(s.state.Promised, s.known.Promised) || s.known.Status == 3 && s.state != s.known || s.state.Place != s.m.Place {
			t.Errorf("from %v by %v to %v", s.known, s.m, s.state)
		}
		if !record.Right(s.state, s.size) || !instance.Right(instance.Put(s.l, s.state), s.size) {
			t.Errorf("%v may not be, of size %d", s.state, s.size)
		}
	})
}

// P19.5: a replica that agrees stores just what it says, by the message's ballot.
func TestWhatIsSaidIsStored(t *testing.T) {
	agreed := map[int]int{}
	eachStep(t, 3, func(s step) {
		if s.r.Kind != api.MsgPreOk && s.r.Kind != api.MsgAcceptOk {
			return
		}
		agreed[s.r.Kind]++
		said := api.Instance{Place: s.r.Place, Promised: s.r.Ballot, Taken: s.r.Taken, Status: s.r.Status, Value: s.r.Value, Same: s.r.Same}
		if !s.is || said != s.state || s.state.Taken != s.m.Ballot || s.r.Ballot != s.m.Ballot {
			t.Errorf("%v behind %v is answered by %v, with the state %v", s.m, s.known, s.r, s.state)
		}
	})
	if agreed[api.MsgPreOk] < 100 || agreed[api.MsgAcceptOk] < 100 {
		t.Errorf("only %v agreed", agreed)
	}
}

// P19.6: a message that comes again is answered in the same way, and changes nothing.
func TestHearAgain(t *testing.T) {
	for _, kind := range leaders() {
		m := ask(kind, ballot(1, 1), valued(1, 1))
		state, r, is, err := acceptor.Hear(nil, 3, m)
		wantHear(t, []api.Instance{state}, 3, m, state, r, is, err)
	}
	eachStep(t, 4, func(s step) {
		wantHear(t, instance.Put(s.l, s.state), s.size, s.m, s.state, s.r, s.is, api.OK)
	})
}

// P19.7: a proposal that is taken depends on all that is known to interfere, with a number above theirs.
func TestPreOkCovers(t *testing.T) {
	covered := 0
	eachStep(t, 5, func(s step) {
		again := s.known.Status == api.InsPre && s.known.Taken == s.m.Ballot
		if s.r.Kind != api.MsgPreOk || again {
			return
		}
		for _, i := range meeting(s.l, s.m) {
			covered++
			if !vector.Covers(s.r.Value.Deps, i.Place) || s.r.Value.Seq < min(i.Value.Seq+1, mostBallot) {
				t.Errorf("%v is answered by %v, but %v is known", s.m, s.r, i)
			}
		}
		if s.r.Value.Cmd != s.m.Value.Cmd || s.r.Value.Seq < s.m.Value.Seq || !vector.Under(s.m.Value.Deps, s.r.Value.Deps) {
			t.Errorf("%v is answered by %v", s.m, s.r)
		}
	})
	if covered < 500 {
		t.Errorf("only %d interfere", covered)
	}
}

// R1, R4: each call ends, and tells the same again, whatever it is given.
func TestAnything(t *testing.T) {
	for _, n := range numbers() {
		for _, k := range numbers() {
			i := api.Instance{Place: place(n, k), Promised: ballot(k, n), Taken: ballot(n, k), Status: n, Value: valued(n, k, n, k, n, k, n, k, n)}
			l := []api.Instance{i, at(k, n, ballot(n, n), k, valued(k, n)), i}
			for _, kind := range append(leaders(), n) {
				m := api.Msg{Kind: kind, From: n, To: k, Place: place(n, k), Ballot: ballot(n, k), Value: i.Value, Status: k, Taken: ballot(k, k)}
				call := func() string {
					state, r, is, err := acceptor.Hear(l, k, m)
					return fmt.Sprint(state, r, is, err, acceptor.Settled(i), acceptor.Stale(i, m.Ballot))
				}
				if a, b := call(), call(); a != b {
					t.Errorf("%d and %d: %s, and then %s", n, k, a, b)
				}
			}
		}
	}
}

// R3: nothing that is handed in changes, nor what is behind it.
func TestMemory(t *testing.T) {
	d := dice(6)
	for range 2000 {
		size := 1 + d.below(mostSize)
		all := d.table(size)
		copied := slices.Clone(all)
		l := all[:d.below(len(all)+1)]
		acceptor.Hear(l, size, d.message(all, size))
		if !slices.Equal(all, copied) {
			t.Fatalf("%v was changed to %v", copied, all)
		}
	}
}
