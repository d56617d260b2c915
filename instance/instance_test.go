package instance_test

import (
	"fmt"
	"math"
	"slices"
	"testing"

	"cambist/api"
	"cambist/command"
	"cambist/instance"
	"cambist/record"
	"cambist/vector"
)

// The limits by the chapters' own figures.
const (
	mostSize   = 7
	mostSlot   = 400
	mostBallot = 1073741824
)

// numbers are ints of all sorts: the least and the greatest ones, and those about each limit.
func numbers() []int {
	return []int{
		math.MinInt, math.MinInt + 1, math.MinInt32, -mostBallot, -401, -2, -1, 0, 1, 2, 3, 4, 5, 6, 7, 8, 399, 400, 401,
		mostBallot - 2, mostBallot - 1, mostBallot, mostBallot + 1, math.MaxInt32, 1 << 32, math.MaxInt - 1, math.MaxInt,
	}
}

// dice tells numbers that look thrown, the same ones at each run.
type dice uint64

func (d *dice) below(n int) int {
	*d = *d*6364136223846793005 + 1442695040888963407
	return int(*d>>33) % n
}

// of tells one of l.
func (d *dice) of(l ...int) int {
	return l[d.below(len(l))]
}

// place is one that an instance may have, or one beside those.
func (d *dice) place() api.Place {
	return api.Place{Replica: d.of(0, 0, 1, 1, 2, 2, 3, 6, 7, -1), Slot: d.of(1, 1, 2, 2, 3, 4, 5, 0, -1, 400, 401)}
}

// cmd is one of few commands, of which many interfere; now and then it may not be.
func (d *dice) cmd() api.Cmd {
	if d.below(6) == 0 {
		return api.Cmd{Client: d.below(2)}
	}
	return api.Cmd{Kind: d.of(1, 2, 3, 4, 5, 6, 7, 8, 9, -1), Client: d.below(5), Lane: d.below(4), Seq: d.below(3)}
}

// any is an instance of all sorts.
func (d *dice) any() api.Instance {
	i := api.Instance{
		Place:    d.place(),
		Promised: api.Ballot{Number: d.below(3), Replica: d.below(3)},
		Status:   d.of(0, 1, 1, 2, 2, 3, 3, 3, 3, -1, 4),
		Value:    api.Value{Cmd: d.cmd(), Seq: d.of(0, 1, 2, 5, 9, -1, mostBallot-2, mostBallot-1, mostBallot, math.MaxInt)},
		Same:     d.below(2) == 0,
	}
	for replica := range i.Value.Deps {
		i.Value.Deps[replica] = d.of(0, 0, 0, 0, 0, 0, 0, 1, 2, 3, 6, -1, 399, 400, 401)
	}
	return i
}

// list is a list of any instances in any order: places are there more than once.
func (d *dice) list() []api.Instance {
	l := []api.Instance{}
	for range d.below(12) {
		l = append(l, d.any())
	}
	return l
}

// table is a table that is valid for that size.
func (d *dice) table(size int) []api.Instance {
	l := []api.Instance{}
	for replica := range size {
		for slot := 1; slot <= 5; slot++ {
			if d.below(3) == 0 {
				i := at(replica, slot)
				i.Status = d.of(api.InsPre, api.InsAccepted, api.InsCommitted)
				i.Value.Cmd = deposit(d.below(4))
				i.Value.Seq = d.below(9)
				i.Value.Deps[d.below(size)] = d.below(7)
				l = append(l, i)
			}
		}
	}
	return l
}

func deposit(client int) api.Cmd {
	return api.Cmd{Kind: api.CmdDeposit, Client: client, Seq: 1, Qty: 5}
}

// limit is a command that works on its client's account and on a lane.
func limit(client, lane int) api.Cmd {
	return api.Cmd{Kind: api.CmdLimit, Client: client, Seq: 1, Lane: lane, Side: api.Buy, Price: 2, Qty: 5}
}

func place(replica, slot int) api.Place {
	return api.Place{Replica: replica, Slot: slot}
}

// at is an instance of that place that may be in every cluster that has the replica.
func at(replica, slot int) api.Instance {
	return api.Instance{Place: place(replica, slot), Status: api.InsPre, Value: api.Value{Cmd: deposit(0), Seq: 1}}
}

// valued is an instance of that place with a command and its number.
func valued(replica, slot int, c api.Cmd, seq int) api.Instance {
	i := at(replica, slot)
	i.Value.Cmd, i.Value.Seq = c, seq
	return i
}

func withStatus(i api.Instance, status int) api.Instance {
	i.Status = status
	return i
}

func withDeps(i api.Instance, deps api.Vector) api.Instance {
	i.Value.Deps = deps
	return i
}

// marked is i with another promise, by which it is told from i.
func marked(i api.Instance, number int) api.Instance {
	i.Promised.Number = number
	return i
}

// places are the places of l, in its order.
func places(l []api.Instance) []api.Place {
	told := []api.Place{}
	for _, i := range l {
		told = append(told, i.Place)
	}
	return told
}

// before is P18.1's order once more: the places are told apart by the first number that differs.
func before(a, b api.Place) bool {
	return slices.Compare([]int{a.Replica, a.Slot}, []int{b.Replica, b.Slot}) < 0
}

func ascending(l []api.Instance) bool {
	for at := 1; at < len(l); at++ {
		if !before(l[at-1].Place, l[at].Place) {
			return false
		}
	}
	return true
}

// got is what Get has to tell.
func got(l []api.Instance, p api.Place) (api.Instance, bool) {
	at := slices.IndexFunc(l, func(i api.Instance) bool { return i.Place == p })
	if at < 0 {
		return api.Instance{Place: p}, false
	}
	return l[at], true
}

// known is what Known has to tell.
func known(l []api.Instance, replica int) int {
	all := []int{0}
	for _, i := range l {
		if i.Place.Replica == replica {
			all = append(all, i.Place.Slot)
		}
		for r, n := range i.Value.Deps {
			if r == replica {
				all = append(all, n)
			}
		}
	}
	return slices.Max(all)
}

// putIn is what Put has to tell.
func putIn(l []api.Instance, i api.Instance) []api.Instance {
	first := len(l)
	for at := len(l) - 1; at >= 0; at-- {
		if !before(l[at].Place, i.Place) {
			first = at
		}
	}
	left := slices.DeleteFunc(slices.Clone(l[first:]), func(o api.Instance) bool { return o.Place == i.Place })
	return slices.Concat(l[:first], []api.Instance{i}, left)
}

// right is what Right has to tell.
func right(l []api.Instance, size int) bool {
	for _, i := range l {
		if !record.Right(i, size) {
			return false
		}
	}
	return size >= 1 && size <= mostSize && ascending(l)
}

// considered are the instances of l on which c at p has to depend.
func considered(l []api.Instance, c api.Cmd, p api.Place) []api.Instance {
	return slices.DeleteFunc(slices.Clone(l), func(i api.Instance) bool {
		return i.Place == p || i.Status < 1 || !command.Meets(i.Value.Cmd, c)
	})
}

// depends is what Depends has to tell.
func depends(l []api.Instance, c api.Cmd, p api.Place) (int, api.Vector) {
	if c.Kind == 0 {
		return 0, api.Vector{}
	}
	seqs, deps := []int{0}, api.Vector{}
	for _, i := range considered(l, c, p) {
		seqs = append(seqs, min(i.Value.Seq, mostBallot-1))
		deps = vector.Raise(deps, i.Place)
	}
	return 1 + slices.Max(seqs), deps
}

// open is what Open has to tell.
func open(l []api.Instance, size int) []api.Place {
	told := []api.Place{}
	for replica := 0; replica < size && replica <= 6; replica++ {
		for slot := 1; slot <= known(l, replica) && slot <= mostSlot; slot++ {
			i, found := got(l, place(replica, slot))
			if !found || i.Status != 3 {
				told = append(told, place(replica, slot))
			}
		}
	}
	return told
}

func wantLess(t *testing.T, a, b api.Place, want bool) {
	t.Helper()
	if instance.Less(a, b) != want {
		t.Errorf("Less(%v, %v): %v, want %v", a, b, !want, want)
	}
}

func wantGet(t *testing.T, l []api.Instance, p api.Place, want api.Instance, found bool) {
	t.Helper()
	i, is := instance.Get(l, p)
	if i != want || is != found {
		t.Errorf("Get(%v, %v): %v %v, want %v %v", l, p, i, is, want, found)
	}
}

func wantPut(t *testing.T, l []api.Instance, i api.Instance, want ...api.Instance) {
	t.Helper()
	if told := instance.Put(l, i); !slices.Equal(told, want) {
		t.Errorf("Put(%v, %v): %v, want %v", l, i, told, want)
	}
}

func wantKnown(t *testing.T, l []api.Instance, replica, want int) {
	t.Helper()
	if told := instance.Known(l, replica); told != want {
		t.Errorf("Known(%v, %d): %d, want %d", l, replica, told, want)
	}
}

func wantRight(t *testing.T, l []api.Instance, size int, want bool) {
	t.Helper()
	if instance.Right(l, size) != want {
		t.Errorf("Right(%v, %d): %v, want %v", l, size, !want, want)
	}
}

func wantDepends(t *testing.T, l []api.Instance, c api.Cmd, p api.Place, seq int, deps api.Vector) {
	t.Helper()
	n, v := instance.Depends(l, c, p)
	if n != seq || v != deps {
		t.Errorf("Depends(%v, %v, %v): %d %v, want %d %v", l, c, p, n, v, seq, deps)
	}
}

func wantOpen(t *testing.T, l []api.Instance, size int, want ...api.Place) {
	t.Helper()
	if told := instance.Open(l, size); !slices.Equal(told, want) {
		t.Errorf("Open(%v, %d): %v, want %v", l, size, told, want)
	}
}

// P18.1: the replica decides, and for the same one the slot.
func TestLess(t *testing.T) {
	wantLess(t, place(0, 1), place(0, 2), true)
	wantLess(t, place(0, 2), place(0, 1), false)
	wantLess(t, place(0, 9), place(1, 1), true)
	wantLess(t, place(1, 1), place(0, 9), false)
	wantLess(t, place(3, 4), place(3, 4), false)
	for _, a := range numbers() {
		for _, b := range numbers() {
			wantLess(t, place(a, 5), place(b, 5), a < b)
			wantLess(t, place(a, 6), place(b, 5), a < b)
			wantLess(t, place(5, a), place(5, b), a < b)
			wantLess(t, place(a, b), place(b, a), a < b)
		}
	}
}

// P18.1: of two places that differ, exactly one is less.
func TestLessOrders(t *testing.T) {
	d := dice(1)
	for range 2000 {
		a, b, c := d.place(), d.place(), d.place()
		if (a != b) != (instance.Less(a, b) != instance.Less(b, a)) {
			t.Errorf("%v and %v: not exactly one is less", a, b)
		}
		if instance.Less(a, b) && instance.Less(b, c) && !instance.Less(a, c) {
			t.Errorf("%v, %v, %v: not in order", a, b, c)
		}
	}
}

// P18.2: an instance that is there is told as it is; of one that isn't, the place alone.
func TestGet(t *testing.T) {
	a, b, c := at(0, 1), at(1, 2), marked(at(2, 1), 3)
	l := []api.Instance{a, b, c}
	for _, i := range l {
		wantGet(t, l, i.Place, i, true)
	}
	wantGet(t, l, place(1, 1), api.Instance{Place: place(1, 1)}, false)
	wantGet(t, l, place(2, 2), api.Instance{Place: place(2, 2)}, false)
	wantGet(t, nil, place(0, 1), api.Instance{Place: place(0, 1)}, false)
	wantGet(t, l, api.Place{}, api.Instance{}, false)
}

// P18.2: of several of a place the first one is told, in whichever order the list is, and whatever the instance is.
func TestGetTakesTheFirst(t *testing.T) {
	none := api.Instance{Place: place(1, 1)}
	wantGet(t, []api.Instance{at(3, 3), marked(at(1, 1), 1), marked(at(1, 1), 2)}, place(1, 1), marked(at(1, 1), 1), true)
	wantGet(t, []api.Instance{marked(at(1, 1), 2), marked(at(1, 1), 1)}, place(1, 1), marked(at(1, 1), 2), true)
	wantGet(t, []api.Instance{none, at(1, 1)}, place(1, 1), none, true)
	d := dice(2)
	for range 2000 {
		l, p := d.list(), d.place()
		i, found := got(l, p)
		wantGet(t, l, p, i, found)
	}
}

// P18.2: places that no instance has are looked up as well.
func TestGetOfAnyPlace(t *testing.T) {
	for _, n := range numbers() {
		for _, m := range numbers() {
			p := place(n, m)
			wantGet(t, []api.Instance{at(-5, -5)}, p, api.Instance{Place: p}, false)
			wantGet(t, []api.Instance{at(-5, -5), at(n, m)}, p, at(n, m), true)
		}
	}
}

// P18.3: an instance is inserted, or replaces the one of its place.
func TestPut(t *testing.T) {
	a, b, c := at(0, 1), at(1, 2), at(2, 1)
	l := []api.Instance{a, c}
	wantPut(t, nil, a, a)
	wantPut(t, []api.Instance{}, a, a)
	wantPut(t, l, b, a, b, c)
	wantPut(t, l, at(0, 0), at(0, 0), a, c)
	wantPut(t, l, at(2, 2), a, c, at(2, 2))
	wantPut(t, l, marked(a, 7), marked(a, 7), c)
	wantPut(t, l, marked(c, 7), a, marked(c, 7))
	wantPut(t, []api.Instance{a, b, c}, marked(b, 7), a, marked(b, 7), c)
	wantPut(t, []api.Instance{a, b, c}, b, a, b, c)
	wantPut(t, instance.Put(nil, b), a, a, b)
}

// P18.3: in every list, what is ahead of the first place that isn't less stays, and all others of the place go behind it.
func TestPutIntoAnyList(t *testing.T) {
	a, b, c := at(0, 1), at(1, 2), at(2, 1)
	wantPut(t, []api.Instance{c, b, a}, marked(b, 7), marked(b, 7), c, a)
	wantPut(t, []api.Instance{a, b, b, c, b}, marked(b, 7), a, marked(b, 7), c)
	wantPut(t, []api.Instance{a, c, a, b}, b, a, b, c, a)
	wantPut(t, []api.Instance{a, a, c, c}, b, a, a, b, c, c)
	d := dice(3)
	for range 3000 {
		l, i := d.list(), d.any()
		wantPut(t, l, i, putIn(l, i)...)
	}
}

// P18.4: an instance of the replica is known, and one on which a value depends.
func TestKnown(t *testing.T) {
	l := []api.Instance{at(0, 1), withDeps(at(1, 2), api.Vector{0, 0, 1, 0, 0, 0, 9}), at(1, 4), at(3, 8)}
	for replica, want := range []int{1, 4, 1, 8, 0, 0, 9} {
		wantKnown(t, l, replica, want)
		wantKnown(t, nil, replica, 0)
	}
	wantKnown(t, []api.Instance{withDeps(at(1, 3), api.Vector{5, 2})}, 1, 3)
	wantKnown(t, []api.Instance{withDeps(at(1, 3), api.Vector{5, 4})}, 1, 4)
	wantKnown(t, []api.Instance{at(0, 2), at(0, 9), at(0, 3)}, 0, 9)
}

// P18.4: the values of all instances count, whatever they have come to.
func TestKnownOfEachStatus(t *testing.T) {
	for _, status := range numbers() {
		wantKnown(t, []api.Instance{withStatus(withDeps(at(1, 3), api.Vector{5, 2}), status)}, 0, 5)
		wantKnown(t, []api.Instance{withStatus(withDeps(at(1, 3), api.Vector{5, 2}), status)}, 1, 3)
	}
}

// P18.4: at least 0 is told; numbers that are no slots count as they are; places count for any replica, what is depended on for 0 to 6.
func TestKnownOfAnyNumbers(t *testing.T) {
	for _, n := range numbers() {
		wantKnown(t, []api.Instance{at(1, n)}, 1, max(n, 0))
		wantKnown(t, []api.Instance{withDeps(at(1, 1), api.Vector{6: n})}, 6, max(n, 0))
		wantKnown(t, []api.Instance{at(n, 3)}, n, 3)
		want := 0
		if n >= 0 && n <= 6 {
			want = 4
		}
		wantKnown(t, []api.Instance{withDeps(at(-9, 3), api.Vector{4, 4, 4, 4, 4, 4, 4})}, n, want)
	}
	d := dice(4)
	for range 2000 {
		l := d.list()
		for replica := -2; replica <= 8; replica++ {
			wantKnown(t, l, replica, known(l, replica))
		}
	}
}

// P18.5: a table has instances that may be, in ascending order.
func TestRight(t *testing.T) {
	a, b, c := at(0, 1), at(1, 2), at(2, 1)
	wantRight(t, []api.Instance{a, b, c}, 3, true)
	wantRight(t, []api.Instance{a, b, c}, 2, false)
	wantRight(t, []api.Instance{a, c, b}, 3, false)
	wantRight(t, []api.Instance{b, a, c}, 3, false)
	wantRight(t, []api.Instance{a, b, b, c}, 3, false)
	wantRight(t, []api.Instance{a, b, marked(b, 1), c}, 3, false)
	wantRight(t, []api.Instance{at(1, 1), at(1, 2), at(1, 3)}, 2, true)
	wantRight(t, []api.Instance{at(1, 1), at(1, 3), at(1, 2)}, 2, false)
	wantRight(t, []api.Instance{at(0, 400), at(1, 1)}, 2, true)
}

// P18.5: one instance that may not be is enough, wherever it is.
func TestRightNeedsEachInstance(t *testing.T) {
	for spoilt := range 3 {
		l := []api.Instance{at(0, 1), at(1, 2), at(2, 1)}
		l[spoilt].Status = 4
		wantRight(t, l, 3, false)
		l[spoilt].Status = api.InsCommitted
		wantRight(t, l, 3, true)
		l[spoilt].Value.Deps[3] = 1
		wantRight(t, l, 3, false)
		wantRight(t, l, 4, true)
	}
	wantRight(t, []api.Instance{at(0, 0)}, 3, false)
	wantRight(t, []api.Instance{at(0, 401)}, 3, false)
}

// P18.5: the size is between 1 and 7, for a table of no instances as well.
func TestRightSizes(t *testing.T) {
	for _, size := range numbers() {
		may := size >= 1 && size <= mostSize
		wantRight(t, nil, size, may)
		wantRight(t, []api.Instance{}, size, may)
		wantRight(t, []api.Instance{at(0, 1)}, size, may)
		wantRight(t, []api.Instance{at(0, 1), at(1, 1)}, size, may && size > 1)
	}
	d := dice(5)
	for range 2000 {
		l, size := d.table(1+d.below(mostSize)), 1+d.below(mostSize)
		if n := len(l); n > 1 && d.below(3) == 0 {
			l[d.below(n)] = l[d.below(n)]
		}
		wantRight(t, l, size, right(l, size))
	}
}

// P18.6: the chapter's example.
func TestDepends(t *testing.T) {
	l := []api.Instance{valued(0, 1, deposit(1), 2), valued(1, 2, deposit(2), 4)}
	wantDepends(t, l, deposit(2), place(0, 2), 5, api.Vector{0, 2})
	wantDepends(t, l, deposit(1), place(0, 2), 3, api.Vector{1})
	wantDepends(t, l, deposit(3), place(0, 2), 1, api.Vector{})
	wantDepends(t, nil, deposit(2), place(0, 2), 1, api.Vector{})
}

// P18.6: a command that is none depends on nothing, whatever else is in it.
func TestDependsOfNoCommand(t *testing.T) {
	l := []api.Instance{valued(0, 1, deposit(0), 2), valued(1, 2, api.Cmd{}, 4), valued(2, 2, limit(0, 0), 4)}
	wantDepends(t, l, api.Cmd{}, place(0, 2), 0, api.Vector{})
	wantDepends(t, l, api.Cmd{Client: 2, Seq: 3, Lane: 1}, place(0, 2), 0, api.Vector{})
	wantDepends(t, nil, api.Cmd{}, place(0, 2), 0, api.Vector{})
	wantDepends(t, l, deposit(0), place(4, 1), 5, api.Vector{1, 0, 2})
}

// P18.6: commands interfere by the account or by the lane.
func TestDependsOnWhatInterferes(t *testing.T) {
	l := []api.Instance{
		valued(0, 1, deposit(1), 2), valued(0, 2, limit(2, 1), 3), valued(1, 1, limit(3, 2), 6), valued(2, 5, limit(1, 2), 5),
	}
	wantDepends(t, l, limit(1, 1), place(3, 1), 6, api.Vector{2, 0, 5})
	wantDepends(t, l, limit(4, 2), place(3, 1), 7, api.Vector{0, 1, 5})
	wantDepends(t, l, limit(4, 3), place(3, 1), 1, api.Vector{})
	wantDepends(t, l, deposit(2), place(3, 1), 4, api.Vector{2})
	wantDepends(t, l, limit(2, 2), place(3, 1), 7, api.Vector{2, 1, 5})
}

// P18.6: the place itself isn't considered, but the others of its replica are, those behind it as well.
func TestDependsNotOnItself(t *testing.T) {
	l := []api.Instance{valued(1, 1, deposit(2), 3), valued(1, 2, deposit(2), 8), valued(2, 2, deposit(2), 5)}
	wantDepends(t, l, deposit(2), place(1, 2), 6, api.Vector{0, 1, 2})
	wantDepends(t, l, deposit(2), place(1, 1), 9, api.Vector{0, 2, 2})
	wantDepends(t, l, deposit(2), place(2, 2), 9, api.Vector{0, 2})
	wantDepends(t, l, deposit(2), place(2, 1), 9, api.Vector{0, 2, 2})
	wantDepends(t, l[1:2], deposit(2), place(1, 2), 1, api.Vector{})
	twice := []api.Instance{l[1], l[1]}
	wantDepends(t, twice, deposit(2), place(1, 2), 1, api.Vector{})
}

// P18.6: instances from InsPre on are considered, and no others.
func TestDependsByStatus(t *testing.T) {
	for _, status := range numbers() {
		l := []api.Instance{withStatus(valued(1, 2, deposit(2), 4), status)}
		if status >= api.InsPre {
			wantDepends(t, l, deposit(2), place(0, 2), 5, api.Vector{0, 2})
		} else {
			wantDepends(t, l, deposit(2), place(0, 2), 1, api.Vector{})
		}
	}
}

// P18.6: a number is at least 1, and at most MaxBallot.
func TestDependsByNumbers(t *testing.T) {
	for _, seq := range numbers() {
		want := 1
		if seq > 0 {
			want = min(seq, mostBallot-1) + 1
		}
		wantDepends(t, []api.Instance{valued(1, 2, deposit(2), seq)}, deposit(2), place(0, 2), want, api.Vector{0, 2})
		l := []api.Instance{valued(1, 2, deposit(2), seq), valued(2, 2, deposit(2), 7)}
		wantDepends(t, l, deposit(2), place(0, 2), max(want, 8), api.Vector{0, 2, 2})
	}
}

// P18.6: places that are of no replica, or below the first one, raise nothing, but their numbers count.
func TestDependsOnAnyPlace(t *testing.T) {
	for _, n := range numbers() {
		deps := api.Vector{}
		if n >= 0 && n <= 6 {
			deps[n] = 3
		}
		wantDepends(t, []api.Instance{valued(n, 3, deposit(2), 4)}, deposit(2), place(-9, 2), 5, deps)
		wantDepends(t, []api.Instance{valued(1, n, deposit(2), 4)}, deposit(2), place(-9, 2), 5, api.Vector{0, max(n, 0)})
	}
}

// P18.6: in every list, for every command.
func TestDependsInAnyList(t *testing.T) {
	d := dice(6)
	for range 3000 {
		l, c, p := d.list(), d.cmd(), d.place()
		seq, deps := depends(l, c, p)
		wantDepends(t, l, c, p, seq, deps)
	}
}

// P18.7: what is known and not committed is open, by replicas and slots; what lies between is open too.
func TestOpen(t *testing.T) {
	l := []api.Instance{
		at(0, 1), withStatus(at(0, 2), api.InsCommitted), withStatus(at(0, 4), api.InsAccepted),
		withStatus(at(1, 2), api.InsCommitted), withDeps(at(2, 1), api.Vector{0, 3, 0, 0, 1}),
	}
	wantOpen(t, l, 3, place(0, 1), place(0, 3), place(0, 4), place(1, 1), place(1, 3), place(2, 1))
	wantOpen(t, l, 1, place(0, 1), place(0, 3), place(0, 4))
	wantOpen(t, l, 5, place(0, 1), place(0, 3), place(0, 4), place(1, 1), place(1, 3), place(2, 1), place(4, 1))
	wantOpen(t, nil, 3)
	wantOpen(t, []api.Instance{withStatus(at(0, 1), api.InsCommitted)}, 3)
	wantOpen(t, []api.Instance{{Place: place(0, 1), Promised: api.Ballot{Number: 1}}}, 3, place(0, 1))
}

// P18.7: nothing but InsCommitted is committed.
func TestOpenByStatus(t *testing.T) {
	for _, status := range numbers() {
		l := []api.Instance{withStatus(at(1, 1), status)}
		if status == 3 {
			wantOpen(t, l, 2)
		} else {
			wantOpen(t, l, 2, place(1, 1))
		}
	}
}

// P18.7: the first instance of a place decides.
func TestOpenTakesTheFirst(t *testing.T) {
	a, b := at(0, 1), withStatus(at(0, 1), api.InsCommitted)
	wantOpen(t, []api.Instance{a, b}, 1, place(0, 1))
	wantOpen(t, []api.Instance{b, a}, 1)
	wantOpen(t, []api.Instance{withStatus(a, api.InsNone), b, a}, 1, place(0, 1))
}

// P18.7: the replicas are 0 to 6 at most, and the slots 1 to 400.
func TestOpenEnds(t *testing.T) {
	all := api.Vector{1, 1, 1, 1, 1, 1, 1}
	l := []api.Instance{withDeps(at(-1, 1), all), at(7, 1), at(8, 2)}
	for _, size := range numbers() {
		want := []api.Place{}
		for replica := range max(min(size, 7), 0) {
			want = append(want, place(replica, 1))
		}
		wantOpen(t, l, size, want...)
	}
	for _, slot := range numbers() {
		for _, l := range [][]api.Instance{{at(0, slot)}, {withDeps(at(7, 1), api.Vector{slot})}} {
			told := instance.Open(l, 1)
			if len(told) != max(min(slot, 400), 0) || slices.ContainsFunc(told, func(p api.Place) bool { return p.Slot < 1 || p.Slot > 400 }) {
				t.Errorf("Open with slot %d: %v", slot, told)
			}
		}
	}
}

// P18.7: in every list, for every size.
func TestOpenOfAnyList(t *testing.T) {
	d := dice(7)
	for range 1000 {
		l := d.list()
		size := d.of(-1, 0, 1, 2, 3, 5, 7, 8, 9)
		wantOpen(t, l, size, open(l, size)...)
	}
}

// P18.7: a table of all instances that a cluster may have.
func TestOpenOfAFullTable(t *testing.T) {
	l, want := []api.Instance{}, []api.Place{}
	for replica := range mostSize {
		for slot := 1; slot <= mostSlot; slot++ {
			i := withStatus(at(replica, slot), 1+(replica+slot)%3)
			if l = append(l, i); i.Status != api.InsCommitted {
				want = append(want, i.Place)
			}
		}
	}
	wantRight(t, l, mostSize, true)
	wantOpen(t, l, mostSize, want...)
}

// P18.8: what was put is found, other places are as they were, and an ascending table stays one.
func TestPutAndGet(t *testing.T) {
	d := dice(8)
	for range 1000 {
		size := 1 + d.below(mostSize)
		l := d.table(size)
		i := marked(at(d.below(size), 1+d.below(6)), 5)
		table := instance.Put(l, i)
		wantGet(t, table, i.Place, i, true)
		wantRight(t, table, size, true)
		for replica := range size {
			for slot := 1; slot <= 7; slot++ {
				p := place(replica, slot)
				if p != i.Place {
					other, found := instance.Get(l, p)
					wantGet(t, table, p, other, found)
				}
			}
		}
		if len(slices.Compact(places(table))) != len(table) {
			t.Errorf("Put(%v, %v): a place is there more than once", l, i)
		}
	}
}

// P18.8: a table that is made by putting alone has the last instance of each place, in any order of putting.
func TestPutMakesTables(t *testing.T) {
	d := dice(9)
	for range 200 {
		table, last := []api.Instance{}, map[api.Place]api.Instance{}
		for n := range 30 {
			i := marked(at(d.below(3), 1+d.below(5)), n)
			table = instance.Put(table, i)
			last[i.Place] = i
		}
		wantRight(t, table, 3, true)
		if len(table) != len(last) {
			t.Errorf("%d instances, want %d", len(table), len(last))
		}
		for p, i := range last {
			wantGet(t, table, p, i, true)
		}
	}
}

// P18.9: what interferes is covered, and has a smaller number.
func TestDependsCovers(t *testing.T) {
	d := dice(10)
	covered := 0
	for range 2000 {
		size := 1 + d.below(mostSize)
		l, c := d.table(size), deposit(d.below(4))
		p := place(d.below(size), 1+d.below(6))
		seq, deps := instance.Depends(l, c, p)
		for _, i := range considered(l, c, p) {
			covered++
			if !vector.Covers(deps, i.Place) || seq <= i.Value.Seq {
				t.Errorf("Depends(%v, %v, %v): %d %v, but %v", l, c, p, seq, deps, i)
			}
		}
		made := api.Instance{Place: p, Status: api.InsPre, Value: api.Value{Cmd: c, Seq: seq, Deps: deps}}
		wantRight(t, instance.Put(l, made), size, true)
	}
	if covered < 1000 {
		t.Errorf("only %d instances interfere", covered)
	}
}

// R1, R4: each call ends, and tells the same again, whatever it is given.
func TestAnything(t *testing.T) {
	for _, n := range numbers() {
		for _, m := range numbers() {
			c := api.Cmd{Kind: m, Client: n, Lane: n}
			i := withStatus(withDeps(valued(n, m, c, n), api.Vector{n, m, n, m}), m)
			l := []api.Instance{i, at(m, n), i}
			calls := func() string {
				a, is := instance.Get(l, place(n, m))
				seq, deps := instance.Depends(l, c, place(m, n))
				return fmt.Sprint(instance.Less(place(n, m), place(m, n)), a, is, instance.Put(l, i), instance.Known(l, n), instance.Right(l, m), seq, deps, instance.Open(l, m))
			}
			if a, b := calls(), calls(); a != b {
				t.Errorf("%d and %d: %s, and then %s", n, m, a, b)
			}
		}
	}
}

// R3: nothing that is handed in changes, nor what is behind it, and what is told shares nothing with it.
func TestMemory(t *testing.T) {
	d := dice(11)
	for range 500 {
		all := slices.Concat(d.list(), []api.Instance{at(0, 1), at(1, 1), at(2, 1)})
		n := d.below(len(all))
		copied := slices.Clone(all)
		l, i, p := all[:n], d.any(), d.place()
		table := instance.Put(l, i)
		want := slices.Clone(table)
		instance.Get(l, p)
		instance.Known(l, p.Replica)
		instance.Right(l, 3)
		instance.Depends(l, i.Value.Cmd, p)
		instance.Open(l, 3)
		if !slices.Equal(all, copied) {
			t.Fatalf("%v was changed to %v", copied, all)
		}
		for at := range all {
			all[at] = api.Instance{Status: -7}
		}
		if !slices.Equal(table, want) {
			t.Fatalf("a table changed with the list from which it was made")
		}
		copy(all, copied)
		for at := range table {
			table[at] = api.Instance{Status: -7}
		}
		if !slices.Equal(all, copied) {
			t.Fatalf("a list changed with the table that was made from it")
		}
	}
}
