package quorum_test

import (
	"math"
	"slices"
	"testing"

	"cambist/acceptor"
	"cambist/api"
	"cambist/instance"
	"cambist/quorum"
	"cambist/vector"
)

// numbers are ints in ascending order: the least and the greatest ones, and those about each limit.
func numbers() []int {
	return []int{
		math.MinInt, math.MinInt + 1, math.MinInt + 2, math.MinInt32, -400, -8, -7, -6, -5, -4, -3, -2, -1, 0, 1, 2, 3, 4, 5, 6, 7, 8, 9, 10,
		11, 13, 15, 400, 401, 1073741824, math.MaxInt32, 1<<32 + 3, 1<<32 + 5, 1<<32 + 7, math.MaxInt - 2, math.MaxInt - 1, math.MaxInt,
	}
}

// sizes are those of clusters.
func sizes() []int {
	return []int{3, 5, 7}
}

// noSizes are those of no cluster.
func noSizes() []int {
	return slices.DeleteFunc(numbers(), func(n int) bool { return slices.Contains(sizes(), n) })
}

// dice tells numbers that look thrown, the same ones at each run.
type dice uint64

func (d *dice) below(n int) int {
	*d = *d*6364136223846793005 + 1442695040888963407
	return int(*d>>33) % n
}

// of tells one of l.
func (d *dice) of(l ...int) int {
	return l[d.below(len(l))]
}

// vector is one of few numbers, so that many are the same.
func (d *dice) vector() api.Vector {
	v := api.Vector{}
	for range d.below(5) {
		v[d.below(7)] = d.of(1, 2, 3, 399, 400, 401, -1, math.MaxInt, math.MinInt)
	}
	return v
}

// value is one of all sorts.
func (d *dice) value() api.Value {
	return api.Value{Cmd: deposit(d.below(3)), Seq: d.of(0, 1, 2, 3, 1073741824, -1, math.MinInt, math.MaxInt), Deps: d.vector()}
}

// message is one of all sorts; it may be from no replica.
func (d *dice) message() api.Msg {
	return api.Msg{
		Kind: d.below(10), From: d.of(-1, 0, 1, 2, 3, 4, 5, 6, 7), To: d.below(7),
		Place: api.Place{Replica: d.below(7), Slot: d.below(3)}, Ballot: api.Ballot{Number: d.below(3), Replica: d.below(7)},
		Value: d.value(), Status: d.below(4), Taken: api.Ballot{Number: d.below(3), Replica: d.below(7)}, Same: d.below(2) == 0,
	}
}

// messages are up to most ones.
func (d *dice) messages(most int) []api.Msg {
	l := []api.Msg{}
	for range d.below(most + 1) {
		l = append(l, d.message())
	}
	return l
}

func deposit(client int) api.Cmd {
	return api.Cmd{Kind: api.CmdDeposit, Client: client, Seq: 1, Qty: 5}
}

// valued is a value of a deposit.
func valued(seq int, deps ...int) api.Value {
	v := api.Value{Cmd: deposit(1), Seq: seq}
	copy(v.Deps[:], deps)
	return v
}

// says is a response of a replica that has v just as it was proposed.
func says(from int, v api.Value) api.Msg {
	return api.Msg{Kind: api.MsgPreOk, From: from, Value: v, Status: api.InsPre, Same: true}
}

// altered is such a response of a replica that has made v of what was proposed.
func altered(from int, v api.Value) api.Msg {
	m := says(from, v)
	m.Same = false
	return m
}

// from are equal responses of those replicas.
func from(v api.Value, replicas ...int) []api.Msg {
	l := []api.Msg{}
	for _, r := range replicas {
		l = append(l, says(r, v))
	}
	return l
}

// many are equal responses of the first replicas, as many as count.
func many(v api.Value, count int) []api.Msg {
	l := []api.Msg{}
	for r := range count {
		l = append(l, says(r, v))
	}
	return l
}

// sets are all sets of the replicas of a cluster.
func sets(size int) [][]int {
	l := [][]int{}
	for bits := range 1 << size {
		set := []int{}
		for r := range size {
			if bits>>r&1 == 1 {
				set = append(set, r)
			}
		}
		l = append(l, set)
	}
	return l
}

// gathered are the responses of those replicas, put together by Add.
func gathered(t *testing.T, size int, v api.Value, replicas []int) []api.Msg {
	t.Helper()
	l := []api.Msg{}
	for _, r := range replicas {
		wantAdd(t, l, says(r, v), size, true)
		l, _ = quorum.Add(l, says(r, v), size)
	}
	return l
}

// wantAdd wants that m is put behind l, or that l is told as it was.
func wantAdd(t *testing.T, l []api.Msg, m api.Msg, size int, is bool) {
	t.Helper()
	want := slices.Clone(l)
	if is {
		want = append(want, m)
	}
	got, added := quorum.Add(l, m, size)
	if added != is || !slices.Equal(got, want) {
		t.Errorf("Add(%v, %v, %d):\n%v %t, want\n%v %t", l, m, size, got, added, want, is)
	}
}

func wantMerge(t *testing.T, v api.Value, l []api.Msg, want api.Value) {
	t.Helper()
	if got := quorum.Merge(v, l); got != want {
		t.Errorf("Merge(%v, %v):\n%v, want\n%v", v, l, got, want)
	}
}

func wantAlike(t *testing.T, v api.Value, l []api.Msg, want bool) {
	t.Helper()
	if got := quorum.Alike(v, l); got != want {
		t.Errorf("Alike(%v, %v): %t, want %t", v, l, got, want)
	}
}

func wantFast(t *testing.T, v api.Value, l []api.Msg, size int, want bool) {
	t.Helper()
	if got := quorum.Fast(v, l, size); got != want {
		t.Errorf("Fast(%v, %v, %d): %t, want %t", v, l, size, got, want)
	}
}

// wantEnough wants what Slow and Most tell of l.
func wantEnough(t *testing.T, l []api.Msg, size int, slow, most bool) {
	t.Helper()
	if quorum.Slow(l, size) != slow || quorum.Most(l, size) != most {
		t.Errorf("of %d messages and size %d: Slow %t, Most %t, want %t and %t", len(l), size, quorum.Slow(l, size), quorum.Most(l, size), slow, most)
	}
}

// P20.1 (Valid): 3, 5 and 7, and no other size.
func TestValid(t *testing.T) {
	for _, size := range sizes() {
		if !quorum.Valid(size) {
			t.Errorf("Valid(%d) is false", size)
		}
	}
	for _, size := range noSizes() {
		if quorum.Valid(size) {
			t.Errorf("Valid(%d) is true", size)
		}
	}
	for size := -1000; size <= 1000; size++ {
		if quorum.Valid(size) != slices.Contains(sizes(), size) {
			t.Errorf("Valid(%d) is %t", size, quorum.Valid(size))
		}
	}
}

// P20.1 (Faults): a size beyond 1 to 7 counts as the nearest of these, and half of what is left of it is rounded down.
func TestFaults(t *testing.T) {
	for _, size := range numbers() {
		want := 0
		switch {
		case size >= 7:
			want = 3
		case size >= 5:
			want = 2
		case size >= 3:
			want = 1
		}
		if got := quorum.Faults(size); got != want {
			t.Errorf("Faults(%d) = %d, want %d", size, got, want)
		}
	}
}

// P20.2: messages of replicas that haven't yet responded are put behind the others.
func TestAdd(t *testing.T) {
	v := valued(2, 1)
	wantAdd(t, nil, says(1, v), 5, true)
	wantAdd(t, from(v, 1), says(1, v), 5, false)
	wantAdd(t, from(v, 1), says(5, v), 5, false)
	wantAdd(t, from(v, 1), says(4, v), 5, true)
	wantAdd(t, from(v, 1, 4), says(0, v), 5, true)
	wantAdd(t, from(v, 1, 4, 0), says(-1, v), 5, false)
	for _, size := range sizes() {
		for _, set := range sets(size) {
			l := gathered(t, size, v, set)
			for r := -2; r < size+2; r++ {
				is := r >= 0 && r < size && !slices.Contains(set, r)
				wantAdd(t, l, says(r, v), size, is)
				wantAdd(t, l, altered(r, valued(3)), size, is)
			}
		}
	}
}

// P20.2: From is held against size, even if that is no cluster's.
func TestAddFrom(t *testing.T) {
	v := valued(2)
	for _, size := range numbers() {
		for _, r := range numbers() {
			wantAdd(t, nil, says(r, v), size, r >= 0 && r < size)
			wantAdd(t, from(v, math.MinInt, -1, 12, 1000), says(r, v), size, r >= 0 && r < size)
		}
	}
}

// P20.2: a replica has responded wherever its message is in the list, and whatever else it says.
func TestAddAgain(t *testing.T) {
	d := dice(1)
	added := 0
	for range 5000 {
		l, m := d.messages(5), d.message()
		size := d.of(3, 5, 7, 7, 4, 0)
		is := m.From >= 0 && m.From < size
		for _, other := range l {
			is = is && other.From != m.From
		}
		if is {
			added++
		}
		wantAdd(t, l, m, size, is)
	}
	if added < 500 || added > 4500 {
		t.Errorf("%d were added", added)
	}
	all := many(valued(2), 7)
	for at, m := range all {
		for shift := range all {
			l := slices.Concat(all[shift:], all[:shift])
			wantAdd(t, l, m, 7, false)
			wantAdd(t, slices.Concat(all[:at], all[at+1:]), altered(at, valued(9, 9)), 7, true)
		}
	}
}

// P20.3: the greatest Seq and the greater numbers of the Deps; all else is v's.
func TestMerge(t *testing.T) {
	v := valued(2, 1, 5)
	wantMerge(t, v, nil, v)
	wantMerge(t, v, []api.Msg{says(1, v)}, v)
	wantMerge(t, v, []api.Msg{altered(1, valued(4, 3))}, valued(4, 3, 5))
	wantMerge(t, v, []api.Msg{altered(1, valued(1, 1, 6))}, valued(2, 1, 6))
	wantMerge(t, v, []api.Msg{altered(1, valued(1, 0, 0, 0, 0, 0, 0, 2)), altered(2, valued(3, 2))}, valued(3, 2, 5, 0, 0, 0, 0, 2))
	wantMerge(t, v, []api.Msg{altered(1, valued(3, 2)), altered(2, valued(1, 0, 0, 7))}, valued(3, 2, 5, 7))
	wantMerge(t, api.Value{}, from(valued(2), 1), api.Value{Seq: 2})
	other := altered(1, api.Value{Cmd: deposit(2), Seq: 1, Deps: api.Vector{0, 6}})
	wantMerge(t, v, []api.Msg{other}, valued(2, 1, 6))
	for replica := range 7 {
		m := altered(replica, api.Value{})
		m.Value.Deps[replica] = 9
		want := v
		want.Deps[replica] = 9
		wantMerge(t, v, []api.Msg{says(0, v), m}, want)
		wantMerge(t, v, []api.Msg{m, says(0, v)}, want)
	}
}

// P20.3: so it is for numbers that may not be, even such as differ by more than an int holds.
func TestMergeAnywhere(t *testing.T) {
	for i, a := range numbers() {
		for j, b := range numbers() {
			greater := numbers()[max(i, j)]
			wantMerge(t, valued(a), []api.Msg{says(1, valued(b))}, valued(greater))
			wantMerge(t, valued(3, a, 7, a), []api.Msg{says(1, valued(2, b, 1, b))}, valued(3, greater, 7, greater))
		}
	}
}

// merged is v with l's values once more: the greatest one of each number.
func merged(v api.Value, l []api.Msg) api.Value {
	seqs := []int{v.Seq}
	deps := [7][]int{}
	for replica := range 7 {
		deps[replica] = []int{v.Deps[replica]}
	}
	for _, m := range l {
		seqs = append(seqs, m.Value.Seq)
		for replica := range 7 {
			deps[replica] = append(deps[replica], m.Value.Deps[replica])
		}
	}
	v.Seq = slices.Max(seqs)
	for replica := range 7 {
		v.Deps[replica] = slices.Max(deps[replica])
	}
	return v
}

// P20.3: of many values, whatever the messages say beside them.
func TestMergeMany(t *testing.T) {
	d := dice(2)
	for range 5000 {
		v, l := d.value(), d.messages(8)
		wantMerge(t, v, l, merged(v, l))
	}
}

// P20.4: one message that isn't Same, or has another value, is enough.
func TestAlike(t *testing.T) {
	v := valued(2, 1)
	wantAlike(t, v, nil, true)
	wantAlike(t, api.Value{}, nil, true)
	wantAlike(t, v, from(v, 1), true)
	wantAlike(t, v, from(v, 1, 1, 9, -1), true)
	wantAlike(t, api.Value{}, []api.Msg{{}}, false)
	wantAlike(t, api.Value{}, []api.Msg{{Same: true}}, true)
	for count := 1; count <= 7; count++ {
		wantAlike(t, v, many(v, count), true)
		for at := range count {
			for _, m := range []api.Msg{altered(at, v), says(at, valued(3, 1)), says(at, valued(2, 2)), altered(at, valued(3, 1)), {}} {
				l := many(v, count)
				l[at] = m
				wantAlike(t, v, l, false)
			}
		}
	}
	wantAlike(t, v, from(valued(2), 1, 2, 3), false)
	wantAlike(t, v, []api.Msg{altered(1, v), altered(2, v), altered(3, v)}, false)
}

// parts are the numbers of a value.
func parts(v *api.Value) []*int {
	c := &v.Cmd
	l := []*int{&c.Client, &c.Seq, &c.Kind, &c.Lane, &c.Asset, &c.Order, &c.Side, &c.Price, &c.Qty, &v.Seq}
	for replica := range v.Deps {
		l = append(l, &v.Deps[replica])
	}
	return l
}

// P20.4: each number of the value counts, in v and in the message.
func TestAlikeExactly(t *testing.T) {
	v := valued(2, 1, 2, 3, 4, 5, 6, 7)
	for at := range parts(&v) {
		for _, by := range []int{1, -1, 1 << 32, math.MinInt} {
			other := v
			*parts(&other)[at] += by
			wantAlike(t, v, []api.Msg{says(0, v), says(1, other)}, false)
			wantAlike(t, other, []api.Msg{says(1, v)}, false)
			wantAlike(t, other, []api.Msg{says(1, other), says(2, other)}, true)
			wantFast(t, v, []api.Msg{says(1, other)}, 3, false)
			wantFast(t, other, []api.Msg{says(1, other)}, 3, true)
		}
	}
}

// P20.4: nothing else of a message counts.
func TestAlikeElse(t *testing.T) {
	d := dice(3)
	seen := [2]int{}
	for range 5000 {
		v, l := d.value(), d.messages(4)
		want := true
		for at := range l {
			if d.below(8) > 0 {
				l[at].Value, l[at].Same = v, true
			}
			want = want && l[at].Value == v && l[at].Same
		}
		wantAlike(t, v, l, want)
		wantFast(t, v, l, 3, want && len(l) > 0)
		wantFast(t, v, l, 5, want && len(l) > 2)
		if len(l) > 0 && want {
			seen[1]++
		} else if !want {
			seen[0]++
		}
	}
	if seen[0] < 500 || seen[1] < 500 {
		t.Errorf("only %v of both sorts", seen)
	}
}

// P20.5, P20.7: for each size, from how many messages on they are enough.
func TestSlowAndMost(t *testing.T) {
	v := valued(2)
	for count := range 10 {
		l := many(v, count)
		wantEnough(t, l, 3, count >= 1, count >= 2)
		wantEnough(t, l, 5, count >= 2, count >= 3)
		wantEnough(t, l, 7, count >= 3, count >= 4)
	}
	wantEnough(t, nil, 3, false, false)
	wantEnough(t, nil, 5, false, false)
	wantEnough(t, nil, 7, false, false)
}

// P20.5, P20.7: messages count whatever they say and whoever they are from.
func TestSlowAndMostAnything(t *testing.T) {
	d := dice(4)
	for range 2000 {
		l := d.messages(6)
		for at, size := range sizes() {
			wantEnough(t, l, size, len(l) > at, len(l) > at+1)
		}
	}
	wantEnough(t, make([]api.Msg, 2), 5, true, false)
	wantEnough(t, make([]api.Msg, 3), 5, true, true)
}

// P20.6: all but two, of which one is the replica that asks, and each one alike.
func TestFast(t *testing.T) {
	v := valued(2, 1)
	for count := range 10 {
		l := many(v, count)
		wantFast(t, v, l, 3, count >= 1)
		wantFast(t, v, l, 5, count >= 3)
		wantFast(t, v, l, 7, count >= 5)
		for at := range count {
			for _, m := range []api.Msg{altered(at, v), says(at, valued(3, 1)), says(at, valued(2, 2))} {
				l := many(v, count)
				l[at] = m
				for _, size := range sizes() {
					wantFast(t, v, l, size, false)
				}
			}
		}
	}
	wantFast(t, valued(1, 1), from(v, 1, 2, 3), 5, false)
	wantFast(t, api.Value{}, make([]api.Msg, 5), 7, false)
}

// P20.5 to P20.7: no messages are enough of a size that no cluster has.
func TestNoSize(t *testing.T) {
	v := valued(2)
	for _, size := range noSizes() {
		for count := range 20 {
			wantEnough(t, many(v, count), size, false, false)
			wantFast(t, v, many(v, count), size, false)
		}
	}
}

// P20.5, P20.7: the replica that asks and those that are Slow are more than half of all, and so are those that are Most without it; fewer are not.
func TestMoreThanHalf(t *testing.T) {
	for _, size := range sizes() {
		for _, set := range sets(size) {
			l := gathered(t, size, valued(2), set)
			wantEnough(t, l, size, 2*(len(set)+1) > size, 2*len(set) > size)
		}
	}
}

// P20.8: two sets that are Most have a replica in common, and so has each of them with one that is Slow and the replica that asks.
func TestInCommon(t *testing.T) {
	for _, size := range sizes() {
		halves := [][]int{}
		for _, set := range sets(size) {
			if quorum.Most(gathered(t, size, valued(2), set), size) {
				halves = append(halves, set)
			}
			for asks := range size {
				if !slices.Contains(set, asks) && quorum.Slow(many(valued(2), len(set)), size) {
					halves = append(halves, append(slices.Clone(set), asks))
				}
			}
		}
		for _, a := range halves {
			for _, b := range halves {
				if !slices.ContainsFunc(a, func(r int) bool { return slices.Contains(b, r) }) {
					t.Fatalf("of %d replicas, %v and %v have none in common", size, a, b)
				}
			}
		}
	}
}

// P20.9: whoever is asked without the replica that proposed, all but one of them have responded fast, and these are as many as may fail.
func TestFastIsSeen(t *testing.T) {
	v := valued(2)
	for _, size := range sizes() {
		tight := 0
		for asks := range size {
			for _, fast := range sets(size) {
				if slices.Contains(fast, asks) || !quorum.Fast(v, gathered(t, size, v, fast), size) {
					continue
				}
				for _, half := range sets(size) {
					if slices.Contains(half, asks) || !quorum.Most(gathered(t, size, v, half), size) {
						continue
					}
					missing := slices.DeleteFunc(slices.Clone(half), func(r int) bool { return slices.Contains(fast, r) })
					if len(missing) > 1 || len(half)-len(missing) < quorum.Faults(size) {
						t.Fatalf("of %d replicas, asked by %d: %v are fast, %v are not seen among %v", size, asks, fast, missing, half)
					}
					tight += len(missing)
				}
			}
		}
		if tight == 0 {
			t.Errorf("of %d replicas, one more is always needed than has to be", size)
		}
	}
}

// P20.10: the merged value covers each statement, is none but those numbers, and is the same in any order.
func TestMergeCovers(t *testing.T) {
	d := dice(5)
	for range 3000 {
		v, l := d.value(), d.messages(7)
		all := quorum.Merge(v, l)
		for _, said := range append(l, says(0, v)) {
			if all.Seq < said.Value.Seq || !vector.Under(said.Value.Deps, all.Deps) {
				t.Errorf("Merge(%v, %v): %v doesn't cover %v", v, l, all, said.Value)
			}
			for replica := range 7 {
				p := api.Place{Replica: replica, Slot: said.Value.Deps[replica]}
				if vector.Covers(said.Value.Deps, p) && !vector.Covers(all.Deps, p) {
					t.Errorf("Merge(%v, %v): %v doesn't cover %v", v, l, all, p)
				}
			}
		}
		reversed := slices.Clone(l)
		slices.Reverse(reversed)
		wantMerge(t, v, reversed, all)
		for at := range l {
			wantMerge(t, v, slices.Concat(l[at:], l[:at]), all)
			wantMerge(t, quorum.Merge(v, l[at:]), l[:at], all)
		}
		wantMerge(t, v, append(l, l...), all)
		wantMerge(t, all, l, all)
	}
}

// proposed are the responses of all replicas but the first one to its proposal; each has that table.
func proposed(t *testing.T, size int, v api.Value, tables [][]api.Instance) []api.Msg {
	t.Helper()
	l := []api.Msg{}
	for to := 1; to < size; to++ {
		m := api.Msg{Kind: api.MsgPre, To: to, Place: api.Place{Replica: 0, Slot: 1}, Value: v}
		_, r, is, err := acceptor.Hear(tables[to], size, m)
		if !is || err != api.OK {
			t.Fatalf("Hear(%v, %d, %v): %v %v", tables[to], size, m, is, err)
		}
		wantAdd(t, l, r, size, true)
		l, _ = quorum.Add(l, r, size)
		wantAdd(t, l, r, size, false)
	}
	return l
}

// P20.2 to P20.7: the responses of replicas that know the same are Fast; what others know beside is in the merged value.
func TestResponses(t *testing.T) {
	for _, size := range sizes() {
		tables := make([][]api.Instance, size)
		v := valued(1)
		l := proposed(t, size, v, tables)
		wantFast(t, v, l, size, true)
		wantFast(t, v, l[:size-2], size, true)
		wantFast(t, v, l[:size-3], size, false)
		wantEnough(t, l, size, true, true)
		wantMerge(t, v, l, v)
		for r := 1; r < size; r++ {
			known := api.Instance{Place: api.Place{Replica: r, Slot: r}, Status: api.InsPre, Value: valued(10 + r)}
			tables[r] = instance.Put(nil, known)
		}
		l = proposed(t, size, v, tables)
		wantFast(t, v, l, size, false)
		wantAlike(t, v, l[:1], false)
		want := valued(10+size, 0, 1, 2, 3, 4, 5, 6)
		for r := size; r < 7; r++ {
			want.Deps[r] = 0
		}
		wantMerge(t, v, l, want)
	}
}

// R1, R4: each call ends, and tells the same again, whatever it is given.
func TestAnything(t *testing.T) {
	d := dice(6)
	for _, size := range numbers() {
		for range 50 {
			v, m, l := d.value(), d.message(), d.messages(9)
			first, is := quorum.Add(l, m, size)
			second, again := quorum.Add(l, m, size)
			if is != again || !slices.Equal(first, second) || quorum.Merge(v, l) != quorum.Merge(v, l) {
				t.Errorf("%v, %v and %d: %v, and then %v", l, m, size, first, second)
			}
			if quorum.Fast(v, l, size) && !(quorum.Slow(l, size) && quorum.Alike(v, l)) || quorum.Most(l, size) && !quorum.Slow(l, size) {
				t.Errorf("%v and %d: what is Fast or Most is not Slow", l, size)
			}
			if quorum.Faults(size) < 0 || quorum.Slow(l, size) && !quorum.Valid(size) {
				t.Errorf("%v and %d: Faults is %d", l, size, quorum.Faults(size))
			}
		}
	}
}

// R3: nothing that is handed in changes, nor what is behind it, and what is told is not kept.
func TestMemory(t *testing.T) {
	d := dice(7)
	for range 2000 {
		v, all := d.value(), append(d.messages(8), d.message())
		copied := slices.Clone(all)
		l := all[:d.below(len(all))]
		for _, size := range sizes() {
			longer, is := quorum.Add(l, d.message(), size)
			quorum.Merge(v, l)
			quorum.Alike(v, l)
			quorum.Fast(v, l, size)
			quorum.Slow(l, size)
			quorum.Most(l, size)
			if is {
				clear(longer)
			}
			if !slices.Equal(all, copied) {
				t.Fatalf("%v was changed to %v", copied, all)
			}
		}
		longer, _ := quorum.Add(l, says(6, v), 7)
		one, _ := quorum.Add(longer, says(5, v), 7)
		told := slices.Clone(one)
		quorum.Add(longer, altered(5, valued(9)), 7)
		if !slices.Equal(one, told) {
			t.Fatalf("%v was changed to %v", told, one)
		}
	}
}
