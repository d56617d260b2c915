package record_test

import (
	"encoding/binary"
	"math"
	"strings"
	"testing"

	"cambist/api"
	"cambist/command"
	"cambist/record"
	"cambist/vector"
)

// The limits by the chapters' own figures.
const (
	mostSize   = 7
	mostSlot   = 400
	mostBallot = 1073741824
)

// numbers are ints of all sorts: the least and the greatest ones, those about each limit, and such as look like a right one in their last bytes.
func numbers() []int {
	return []int{
		math.MinInt, math.MinInt + 1, math.MinInt32, -mostBallot, -65536, -256, -255, -7, -2, -1, 0, 1, 2, 3, 4, 5, 6, 7, 8,
		127, 128, 255, 256, 257, 399, 400, 401, 65535, 65536, 65537, 65536 + 400, mostBallot - 1, mostBallot, mostBallot + 1,
		math.MaxInt32, 1 << 32, 1<<32 + 1, 1<<32 + 5, math.MaxInt - 1, math.MaxInt,
	}
}

// sizes are all sizes that a cluster may have, and such as it may not.
func sizes() []int {
	return []int{1, 2, 3, 4, 5, 6, 7, 0, 8, 9, -1, -2, 255, 256 + 3, math.MinInt, math.MaxInt, math.MaxInt32}
}

// field is a number of an instance, and where its bytes stand.
type field struct {
	name      string
	of        func(i *api.Instance) *int
	at, width int
}

func fields() []field {
	l := []field{
		{"Replica", func(i *api.Instance) *int { return &i.Place.Replica }, 0, 1},
		{"Slot", func(i *api.Instance) *int { return &i.Place.Slot }, 1, 2},
		{"Status", func(i *api.Instance) *int { return &i.Status }, 3, 1},
		{"Promised.Number", func(i *api.Instance) *int { return &i.Promised.Number }, 5, 4},
		{"Promised.Replica", func(i *api.Instance) *int { return &i.Promised.Replica }, 9, 1},
		{"Taken.Number", func(i *api.Instance) *int { return &i.Taken.Number }, 10, 4},
		{"Taken.Replica", func(i *api.Instance) *int { return &i.Taken.Replica }, 14, 1},
		{"Kind", func(i *api.Instance) *int { return &i.Value.Cmd.Kind }, 15, 1},
		{"Client", func(i *api.Instance) *int { return &i.Value.Cmd.Client }, 16, 1},
		{"Cmd.Seq", func(i *api.Instance) *int { return &i.Value.Cmd.Seq }, 20, 7},
		{"Order", func(i *api.Instance) *int { return &i.Value.Cmd.Order }, 41, 4},
		{"Value.Seq", func(i *api.Instance) *int { return &i.Value.Seq }, 45, 4},
	}
	for replica := range mostSize {
		l = append(l, field{"Deps", func(i *api.Instance) *int { return &i.Value.Deps[replica] }, 49 + 2*replica, 2})
	}
	return l
}

// set is i but for one number.
func (f field) set(i api.Instance, n int) api.Instance {
	*f.of(&i) = n
	return i
}

// isValue tells whether a value may be, by the chapter's definition.
func isValue(v api.Value, size int) bool {
	return command.Check(v.Cmd) == api.OK && v.Seq >= 0 && v.Seq <= mostBallot && vector.Right(v.Deps, size)
}

func isBallot(b api.Ballot) bool {
	return b.Number >= 0 && b.Number <= mostBallot && b.Replica >= 0 && b.Replica <= 6
}

// isInstance tells whether an instance may be, by the chapter's definition.
func isInstance(i api.Instance, size int) bool {
	switch {
	case size < 1 || size > mostSize:
		return false
	case i.Place.Replica < 0 || i.Place.Replica >= size || i.Place.Slot < 1 || i.Place.Slot > mostSlot:
		return false
	case !isBallot(i.Promised) || !isBallot(i.Taken):
		return false
	case i.Promised.Number < i.Taken.Number || i.Promised.Number == i.Taken.Number && i.Promised.Replica < i.Taken.Replica:
		return false
	case i.Status < 0 || i.Status > 3 || !isValue(i.Value, size):
		return false
	}
	return i.Status > 0 || i.Value == api.Value{} && i.Taken == api.Ballot{} && !i.Same
}

// valueBytes is a value that may be as bytes, by the chapter's list.
func valueBytes(v api.Value, size int) string {
	cmd, err := command.Write(v.Cmd)
	if err != api.OK {
		panic("a command that may not be")
	}
	b := binary.BigEndian.AppendUint32([]byte(cmd), uint32(v.Seq))
	for _, n := range v.Deps[:size] {
		b = binary.BigEndian.AppendUint16(b, uint16(n))
	}
	return string(b)
}

// instanceBytes is an instance that may be as bytes, by the chapter's list.
func instanceBytes(i api.Instance, size int) string {
	b := binary.BigEndian.AppendUint16([]byte{byte(i.Place.Replica)}, uint16(i.Place.Slot))
	b = append(b, byte(i.Status), 0)
	if i.Same {
		b[4] = 1
	}
	b = append(binary.BigEndian.AppendUint32(b, uint32(i.Promised.Number)), byte(i.Promised.Replica))
	b = append(binary.BigEndian.AppendUint32(b, uint32(i.Taken.Number)), byte(i.Taken.Replica))
	return string(b) + valueBytes(i.Value, size)
}

// plain is an instance that may be in a cluster of three replicas and of more, of the chapter's example.
func plain() api.Instance {
	return api.Instance{
		Place:    api.Place{Replica: 1, Slot: 300},
		Promised: api.Ballot{Number: 2, Replica: 1},
		Taken:    api.Ballot{Replica: 1},
		Status:   api.InsPre,
		Value:    api.Value{Cmd: api.Cmd{Kind: api.CmdTop, Client: 3, Seq: 9}, Seq: 7, Deps: api.Vector{1, 2, 3}},
		Same:     true,
	}
}

// bare is an instance of which no value was taken.
func bare() api.Instance {
	return api.Instance{Place: api.Place{Slot: 1}}
}

// least and most are the instances of the least and of the greatest numbers that may be in a cluster of size replicas, of those that took a value.
func least() api.Instance {
	return api.Instance{Place: api.Place{Slot: 1}, Status: api.InsPre}
}

func most(size int) api.Instance {
	top := api.Ballot{Number: mostBallot, Replica: 6}
	i := api.Instance{Place: api.Place{Replica: size - 1, Slot: mostSlot}, Promised: top, Taken: top, Status: api.InsCommitted, Same: true}
	i.Value.Cmd = api.Cmd{Kind: api.CmdTop, Client: 63, Seq: api.MaxAmount, Lane: 5, Asset: 7, Order: mostBallot, Side: api.Sell, Price: api.MaxAmount, Qty: api.MaxAmount}
	i.Value.Seq = mostBallot
	for replica := range size {
		i.Value.Deps[replica] = mostSlot
	}
	return i
}

// dice hands out numbers below a limit, the same ones for the same seed.
type dice uint64

func (d *dice) below(limit int) int {
	*d = *d*6364136223846793005 + 1442695040888963407
	return int(uint64(*d) >> 33 % uint64(limit))
}

// pick hands out a number up to most, often one at an end.
func (d *dice) pick(least, most int) int {
	pool := []int{least, least, least + 1, most - 1, most, most, least + d.below(most-least+1), least + d.below(most-least+1)}
	return min(max(least, pool[d.below(len(pool))]), most)
}

func (d *dice) cmd() api.Cmd {
	if d.below(5) == 0 {
		return api.Cmd{}
	}
	return api.Cmd{
		Kind: d.pick(1, 8), Client: d.pick(0, 63), Seq: d.pick(1, mostBallot), Lane: d.pick(0, 5), Asset: d.pick(0, 7),
		Order: d.pick(0, mostBallot), Side: d.pick(0, 2), Price: d.pick(0, mostBallot), Qty: d.pick(0, mostBallot),
	}
}

func (d *dice) value(size int) api.Value {
	v := api.Value{Cmd: d.cmd(), Seq: d.pick(0, mostBallot)}
	for replica := range size {
		v.Deps[replica] = d.pick(0, mostSlot)
	}
	return v
}

// instance hands out one that may be in a cluster of size replicas.
func (d *dice) instance(size int) api.Instance {
	i := api.Instance{Place: api.Place{Replica: d.pick(0, size-1), Slot: d.pick(1, mostSlot)}}
	i.Promised = api.Ballot{Number: d.pick(0, mostBallot), Replica: d.pick(0, 6)}
	if i.Status = d.below(4); i.Status == api.InsNone {
		return i
	}
	i.Same, i.Value = d.below(2) == 1, d.value(size)
	if i.Taken = i.Promised; d.below(2) == 1 {
		i.Taken = api.Ballot{Number: d.pick(0, max(1, i.Promised.Number)) - 1, Replica: d.pick(0, 6)}
		i.Taken.Number = max(i.Taken.Number, 0)
	}
	if i.Promised.Number == i.Taken.Number {
		i.Taken.Replica = min(i.Taken.Replica, i.Promised.Replica)
	}
	return i
}

// right are count instances that may be in a cluster of size replicas, the same ones at each call.
func right(size, count int) []api.Instance {
	d, l := dice(size*1000+count), []api.Instance{bare(), least(), most(size)}
	if size >= 3 {
		l = append(l, plain())
	}
	for len(l) < count {
		l = append(l, d.instance(size))
	}
	return l
}

// changed are i with one number or sign of it changed to numbers of all sorts; some of them may still be.
func changed(i api.Instance) []api.Instance {
	l := []api.Instance{}
	for _, f := range fields() {
		for _, n := range numbers() {
			l = append(l, f.set(i, n))
		}
		l = append(l, f.set(i, *f.of(&i)+1), f.set(i, *f.of(&i)-1))
	}
	i.Same = !i.Same
	return append(l, i)
}

// crowd are instances for all sizes, many of which may not be.
func crowd() []api.Instance {
	l := []api.Instance{}
	for size := 1; size <= mostSize; size++ {
		for _, i := range right(size, 6) {
			l = append(append(l, i), changed(i)...)
		}
	}
	return l
}

func wantRight(t *testing.T, i api.Instance, size int, want bool) {
	t.Helper()
	if got := record.Right(i, size); got != want {
		t.Errorf("Right(%+v, %d) = %t", i, size, got)
	}
}

func wantWrite(t *testing.T, i api.Instance, size int, want string, wantErr api.Errno) {
	t.Helper()
	got, err := record.Write(i, size)
	if got != want || err != wantErr {
		t.Errorf("Write(%+v, %d) = %q, %d, want %q, %d", i, size, got, err, want, wantErr)
	}
}

func wantRead(t *testing.T, s string, size int, want api.Instance, wantErr api.Errno) {
	t.Helper()
	got, err := record.Read(s, size)
	if got != want || err != wantErr {
		t.Errorf("Read(%d bytes %q, %d) = %+v, %d, want %+v, %d", len(s), s, size, got, err, want, wantErr)
	}
}

func wantNotRead(t *testing.T, s string, size int, wantErr api.Errno) {
	t.Helper()
	wantRead(t, s, size, api.Instance{}, wantErr)
}

func wantPut(t *testing.T, v api.Value, size int, want string, wantErr api.Errno) {
	t.Helper()
	got, err := record.PutValue(v, size)
	if got != want || err != wantErr {
		t.Errorf("PutValue(%+v, %d) = %q, %d, want %q, %d", v, size, got, err, want, wantErr)
	}
}

func wantGet(t *testing.T, s string, at, size int, want api.Value, wantNext int, wantErr api.Errno) {
	t.Helper()
	got, next, err := record.GetValue(s, at, size)
	if got != want || next != wantNext || err != wantErr {
		t.Errorf("GetValue(%d bytes %q, %d, %d) = %+v, %d, %d, want %+v, %d, %d", len(s), s, at, size, got, next, err, want, wantNext, wantErr)
	}
}

func wantNotGot(t *testing.T, s string, at, size int, wantErr api.Errno) {
	t.Helper()
	wantGet(t, s, at, size, api.Value{}, 0, wantErr)
}

// P16.1: what may be, and the edges of each number, in clusters of all sizes.
func TestRight(t *testing.T) {
	wantRight(t, bare(), 3, true)
	wantRight(t, plain(), 3, true)
	for size := 1; size <= mostSize; size++ {
		wantRight(t, bare(), size, true)
		wantRight(t, least(), size, true)
		wantRight(t, most(size), size, true)
		for _, i := range right(size, 300) {
			wantRight(t, i, size, true)
		}
	}
}

// P16.1: a size is between 1 and 7, and an instance of a cluster may not be in one that is too small for it.
func TestRightSize(t *testing.T) {
	for _, size := range sizes() {
		wantRight(t, bare(), size, size >= 1 && size <= 7)
		wantRight(t, least(), size, size >= 1 && size <= 7)
		wantRight(t, plain(), size, size >= 3 && size <= 7)
		wantRight(t, most(5), size, size >= 5 && size <= 7)
		far := api.Instance{Place: api.Place{Replica: 4, Slot: 1}, Promised: api.Ballot{Replica: 6}}
		wantRight(t, far, size, size >= 5 && size <= 7)
	}
}

// P16.1: the place.
func TestRightPlace(t *testing.T) {
	for size := 1; size <= mostSize; size++ {
		for _, n := range numbers() {
			i := least()
			i.Place.Replica = n
			wantRight(t, i, size, n >= 0 && n < size)
			i = bare()
			i.Place.Slot = n
			wantRight(t, i, size, n >= 1 && n <= 400)
		}
	}
}

// P16.1: the ballots, whose replicas may be beyond the cluster's, and of which the one that was promised is the greater one or the same.
func TestRightBallots(t *testing.T) {
	for _, n := range numbers() {
		i := least()
		i.Promised.Number = n
		wantRight(t, i, 3, n >= 0 && n <= mostBallot)
		i = least()
		i.Promised.Replica = n
		wantRight(t, i, 3, n >= 0 && n <= 6)
		i = least()
		i.Promised, i.Taken.Number = api.Ballot{Number: mostBallot, Replica: 6}, n
		wantRight(t, i, 3, n >= 0 && n <= mostBallot)
		i.Taken = api.Ballot{Replica: n}
		wantRight(t, i, 3, n >= 0 && n <= 6)
	}
	for _, c := range []struct {
		promised, taken api.Ballot
		want            bool
	}{
		{api.Ballot{Number: 5, Replica: 3}, api.Ballot{Number: 5, Replica: 3}, true},
		{api.Ballot{Number: 5, Replica: 3}, api.Ballot{Number: 5, Replica: 2}, true},
		{api.Ballot{Number: 5, Replica: 3}, api.Ballot{Number: 5, Replica: 4}, false},
		{api.Ballot{Number: 5, Replica: 3}, api.Ballot{Number: 4, Replica: 4}, true},
		{api.Ballot{Number: 5, Replica: 3}, api.Ballot{Number: 6, Replica: 0}, false},
		{api.Ballot{}, api.Ballot{Replica: 1}, false},
		{api.Ballot{Replica: 1}, api.Ballot{}, true},
	} {
		i := plain()
		i.Promised, i.Taken = c.promised, c.taken
		wantRight(t, i, 3, c.want)
	}
}

// P16.1: the status, and that nothing else is there without one.
func TestRightStatus(t *testing.T) {
	for _, n := range numbers() {
		i := bare()
		i.Status = n
		wantRight(t, i, 3, n >= 0 && n <= 3)
		i = plain()
		i.Status = n
		wantRight(t, i, 3, n >= 1 && n <= 3)
	}
	none := bare()
	none.Promised = api.Ballot{Number: mostBallot, Replica: 6}
	wantRight(t, none, 3, true)
	changes := []func(i *api.Instance){
		func(i *api.Instance) { i.Same = true },
		func(i *api.Instance) { i.Taken.Number = 1 },
		func(i *api.Instance) { i.Taken.Replica = 1 },
		func(i *api.Instance) { i.Value.Seq = 1 },
		func(i *api.Instance) { i.Value.Deps[0] = 1 },
		func(i *api.Instance) { i.Value.Deps[2] = 400 },
		func(i *api.Instance) { i.Value.Cmd = api.Cmd{Kind: api.CmdBalance, Seq: 1} },
	}
	for _, change := range changes {
		i := none
		change(&i)
		wantRight(t, i, 3, false)
		for status := 1; status <= 3; status++ {
			i.Status = status
			wantRight(t, i, 3, true)
		}
	}
}

// P16.1: the value's command, number and vector.
func TestRightValue(t *testing.T) {
	for _, n := range numbers() {
		i := plain()
		i.Value.Seq = n
		wantRight(t, i, 3, n >= 0 && n <= mostBallot)
		for replica := range mostSize {
			i = plain()
			i.Value.Deps[replica] = n
			wantRight(t, i, 3, n == 0 || n > 0 && n <= 400 && replica < 3)
		}
		i = plain()
		i.Value.Cmd.Client = n
		wantRight(t, i, 3, n >= 0 && n <= 63)
	}
	i := plain()
	i.Value.Cmd = api.Cmd{}
	wantRight(t, i, 3, true)
	i.Value.Cmd.Client = 1
	wantRight(t, i, 3, false)
}

// P16.1, P16.4: by the definitions, of instances of all sorts; only what may be is written.
func TestRightAll(t *testing.T) {
	count := map[bool]int{}
	for _, i := range crowd() {
		for _, size := range sizes() {
			want := isInstance(i, size)
			count[want]++
			wantRight(t, i, size, want)
			if want {
				wantWrite(t, i, size, instanceBytes(i, size), api.OK)
			} else {
				wantWrite(t, i, size, "", api.ErrArg)
			}
		}
	}
	if count[true] < 1000 || count[false] < 1000 {
		t.Errorf("%v instances", count)
	}
}

// P16.2: the command, the number in four bytes, and size numbers in two bytes each.
func TestPutValue(t *testing.T) {
	v := plain().Value
	cmd := "\x08\x03\x00\x00\x00" + "\x00\x00\x00\x00\x00\x00\x09" + strings.Repeat("\x00", 18)
	wantPut(t, v, 3, cmd+"\x00\x00\x00\x07"+"\x00\x01\x00\x02\x00\x03", api.OK)
	wantPut(t, v, 4, cmd+"\x00\x00\x00\x07"+"\x00\x01\x00\x02\x00\x03\x00\x00", api.OK)
	v.Seq, v.Deps = 0x01020304, api.Vector{0x0102, 400, 0, 0, 0, 0, 0x0103}
	wantPut(t, v, 7, cmd+"\x01\x02\x03\x04"+"\x01\x02\x01\x90\x00\x00\x00\x00\x00\x00\x00\x00\x01\x03", api.OK)
	wantPut(t, api.Value{}, 1, strings.Repeat("\x00", 36), api.OK)
	for size := 1; size <= mostSize; size++ {
		wantPut(t, api.Value{}, size, strings.Repeat("\x00", 34+2*size), api.OK)
		for _, i := range right(size, 300) {
			wantPut(t, i.Value, size, valueBytes(i.Value, size), api.OK)
		}
	}
}

// P16.2: values that may not be, and sizes that may not be; a value is put alone, whatever instance it is of.
func TestPutValueWrong(t *testing.T) {
	for _, size := range sizes() {
		if size < 1 || size > 7 {
			wantPut(t, api.Value{}, size, "", api.ErrArg)
		}
	}
	wantPut(t, plain().Value, 2, "", api.ErrArg)
	wantPut(t, api.Value{Cmd: api.Cmd{Client: 1}}, 3, "", api.ErrArg)
	for _, n := range []int{-1, mostBallot + 1, 1 << 32, math.MinInt, math.MaxInt} {
		wantPut(t, api.Value{Seq: n}, 3, "", api.ErrArg)
	}
	for _, n := range []int{-1, 401, 65536, math.MinInt, math.MaxInt} {
		wantPut(t, api.Value{Deps: api.Vector{0, 0, n}}, 3, "", api.ErrArg)
	}
	wantPut(t, api.Value{Deps: api.Vector{0, 0, 0, 1}}, 3, "", api.ErrArg)
	for _, i := range crowd() {
		for _, size := range sizes() {
			if isValue(i.Value, size) {
				wantPut(t, i.Value, size, valueBytes(i.Value, size), api.OK)
			} else {
				wantPut(t, i.Value, size, "", api.ErrArg)
			}
		}
	}
}

// P16.3: the value at an offset, and the offset after it.
func TestGetValue(t *testing.T) {
	wantGet(t, "x"+valueBytes(plain().Value, 3), 1, 3, plain().Value, 41, api.OK)
	for size := 1; size <= mostSize; size++ {
		for _, i := range right(size, 100) {
			s := valueBytes(i.Value, size)
			for _, before := range []string{"", "x", "\xff\xff\xff", strings.Repeat("\x00\xff", 150)} {
				for _, after := range []string{"", "\x00", strings.Repeat("\xff", 40)} {
					wantGet(t, before+s+after, len(before), size, i.Value, len(before)+len(s), api.OK)
				}
			}
		}
	}
}

// P16.3: offsets that are none, whatever the size is.
func TestGetValueWrongOffset(t *testing.T) {
	for _, s := range []string{"", "x", valueBytes(plain().Value, 3), strings.Repeat("\xff", 100)} {
		for _, size := range sizes() {
			for _, at := range append(numbers(), len(s)+1) {
				if at < 0 || at > len(s) {
					wantNotGot(t, s, at, size, api.ErrArg)
				}
			}
			wantNotGot(t, s, len(s), size, api.ErrShort)
		}
	}
}

// P16.3: bytes that end too soon: in the command, in the number, in the vector.
func TestGetValueShort(t *testing.T) {
	for size := 1; size <= mostSize; size++ {
		s := valueBytes(most(size).Value, size)
		for cut := range len(s) {
			wantNotGot(t, s[:cut], 0, size, api.ErrShort)
			wantNotGot(t, "abc"+s[:cut], 3, size, api.ErrShort)
		}
	}
}

// P16.3: a size below 0 counts as 0 and one above 7 as 7 where bytes may be missing; if none is, the form is wrong.
func TestGetValueWrongSize(t *testing.T) {
	s := valueBytes(most(7).Value, 7)
	zero := strings.Repeat("\x00", 48)
	for _, size := range sizes() {
		if size >= 1 && size <= 7 {
			continue
		}
		need := 34
		if size > 7 {
			need = 48
		}
		for _, s := range []string{s, zero} {
			for cut := range len(s) {
				wantErr := api.ErrForm
				if cut < need {
					wantErr = api.ErrShort
				}
				wantNotGot(t, s[:cut], 0, size, wantErr)
				wantNotGot(t, "ab"+s[:cut], 2, size, wantErr)
			}
			wantNotGot(t, s+"more", 0, size, api.ErrForm)
		}
	}
}

// P16.3: what may not be is of a wrong form, but bytes that are missing come first; a command that may not be comes ahead of both.
func TestGetValueWrongForm(t *testing.T) {
	s := valueBytes(plain().Value, 3)
	for _, bad := range []string{"\x40\x00\x00\x01", "\x7f\xff\xff\xff", "\xff\xff\xff\xff"} {
		wrong := s[:30] + bad + s[34:]
		wantNotGot(t, wrong, 0, 3, api.ErrForm)
		wantNotGot(t, wrong[:39], 0, 3, api.ErrShort)
	}
	wantGet(t, s[:30]+"\x40\x00\x00\x00"+s[34:], 0, 3, api.Value{Cmd: plain().Value.Cmd, Seq: mostBallot, Deps: api.Vector{1, 2, 3}}, 40, api.OK)
	for at := 34; at < 40; at += 2 {
		for _, bad := range []string{"\x01\x91", "\x02\x00", "\xff\xff"} {
			wrong := s[:at] + bad + s[at+2:]
			wantNotGot(t, wrong, 0, 3, api.ErrForm)
			wantNotGot(t, "x"+wrong+"y", 1, 3, api.ErrForm)
			wantNotGot(t, wrong[:39], 0, 3, api.ErrShort)
		}
	}
	for _, bad := range []string{"\x09" + s[1:], "\x00" + s[1:], s[:4] + "\x03" + s[5:]} {
		for _, size := range sizes() {
			for _, cut := range []int{30, 31, 34, 39, 40} {
				wantNotGot(t, bad[:cut], 0, size, api.ErrForm)
			}
			wantNotGot(t, bad[:29], 0, size, api.ErrShort)
		}
	}
}

// P16.4: the chapter's examples, and each number in its place.
func TestWrite(t *testing.T) {
	s, err := record.Write(plain(), 3)
	if len(s) != 55 || err != api.OK {
		t.Errorf("Write: %d bytes, %d", len(s), err)
	}
	head := "\x01\x01\x2c\x01\x01" + "\x00\x00\x00\x02\x01" + "\x00\x00\x00\x00\x01"
	wantWrite(t, plain(), 3, head+valueBytes(plain().Value, 3), api.OK)
	wantWrite(t, plain(), 2, "", api.ErrArg)
	wantWrite(t, bare(), 1, "\x00\x00\x01"+strings.Repeat("\x00", 48), api.OK)
	wantWrite(t, bare(), 7, "\x00\x00\x01"+strings.Repeat("\x00", 60), api.OK)
	i := api.Instance{Place: api.Place{Replica: 6, Slot: 0x0182}, Promised: api.Ballot{Number: 0x31323334, Replica: 5}, Taken: api.Ballot{Number: 0x01020304, Replica: 3}, Status: 2}
	wantWrite(t, i, 7, "\x06\x01\x82\x02\x00"+"\x31\x32\x33\x34\x05"+"\x01\x02\x03\x04\x03"+strings.Repeat("\x00", 48), api.OK)
	for size := 1; size <= mostSize; size++ {
		for _, i := range right(size, 300) {
			wantWrite(t, i, size, instanceBytes(i, size), api.OK)
			if s, _ := record.Write(i, size); len(s) != 49+2*size {
				t.Errorf("%d bytes for size %d", len(s), size)
			}
		}
	}
}

// P16.5: the chapter's examples, and instances of all sorts.
func TestRead(t *testing.T) {
	s := instanceBytes(plain(), 3)
	wantRead(t, s, 3, plain(), api.OK)
	wantNotRead(t, s, 5, api.ErrShort)
	wantNotRead(t, s+"x", 3, api.ErrForm)
	wantRead(t, "\x00\x00\x01"+strings.Repeat("\x00", 48), 1, bare(), api.OK)
	for size := 1; size <= mostSize; size++ {
		for _, i := range right(size, 300) {
			wantRead(t, instanceBytes(i, size), size, i, api.OK)
		}
	}
}

// P16.5: fewer than 15 bytes, whatever they are and whatever the size is.
func TestReadShort(t *testing.T) {
	for _, s := range []string{instanceBytes(plain(), 3), strings.Repeat("\x00", 15), strings.Repeat("\xff", 15)} {
		for count := range 15 {
			for _, size := range sizes() {
				wantNotRead(t, s[:count], size, api.ErrShort)
			}
		}
	}
}

// P16.5: the value's error comes ahead of what is wrong in the bytes in front of it.
func TestReadOrder(t *testing.T) {
	head, value := strings.Repeat("\xff", 15), valueBytes(plain().Value, 3)
	for cut := range 40 {
		wantNotRead(t, head+value[:cut], 3, api.ErrShort)
	}
	wantNotRead(t, head+value, 3, api.ErrForm)
	wantNotRead(t, head+"\x09"+value[1:30], 3, api.ErrForm)
	wantNotRead(t, head+value[:34]+"\x01\x91"+value[36:39], 3, api.ErrShort)
	wantNotRead(t, head+value[:34]+"\x01\x91"+value[36:], 3, api.ErrForm)
}

// P16.5: sizes other than the one that it was written for, among them those that may not be.
func TestReadSize(t *testing.T) {
	for size := 1; size <= mostSize; size++ {
		for _, i := range right(size, 20) {
			s := instanceBytes(i, size)
			for _, other := range sizes() {
				switch {
				case other > size:
					wantNotRead(t, s, other, map[bool]api.Errno{true: api.ErrForm, false: api.ErrShort}[size == 7])
				case other < size:
					wantNotRead(t, s, other, api.ErrForm)
				}
			}
		}
	}
	for _, size := range []int{0, 8, -1, math.MinInt, math.MaxInt} {
		wantNotRead(t, "\x00\x00\x01"+strings.Repeat("\x00", 60), size, api.ErrForm)
		wantNotRead(t, "\x00\x00\x01"+strings.Repeat("\x00", 46), size, map[bool]api.Errno{true: api.ErrShort, false: api.ErrForm}[size > 7])
	}
}

// P16.5: bytes of what may not be: one number is enough.
func TestReadWrongForm(t *testing.T) {
	for _, i := range []api.Instance{plain(), least(), most(7), bare()} {
		s := instanceBytes(i, 7)
		for _, f := range fields() {
			for _, n := range numbers() {
				if n < 0 || n>>(8*f.width) != 0 {
					continue
				}
				b := []byte(s)
				for at := range f.width {
					b[f.at+at] = byte(n >> (8 * (f.width - 1 - at)))
				}
				if x := f.set(i, n); isInstance(x, 7) {
					wantRead(t, string(b), 7, x, api.OK)
				} else {
					wantNotRead(t, string(b), 7, api.ErrForm)
				}
			}
		}
	}
	s := instanceBytes(plain(), 3)
	for n := 2; n < 256; n++ {
		wantNotRead(t, s[:4]+string([]byte{byte(n)})+s[5:], 3, api.ErrForm)
	}
	for _, tail := range []string{"\x00", "\x00\x00", "\xff", s, strings.Repeat("\x00", 100)} {
		wantNotRead(t, s+tail, 3, api.ErrForm)
	}
	wantNotRead(t, "x"+s, 3, api.ErrForm)
}

// P16.6: what was written is read back, of all sizes; values, too.
func TestReadBack(t *testing.T) {
	for size := 1; size <= mostSize; size++ {
		for _, i := range right(size, 500) {
			s, err := record.Write(i, size)
			if err != api.OK {
				t.Fatalf("Write(%+v, %d): %d", i, size, err)
			}
			wantRead(t, s, size, i, api.OK)
			v, err := record.PutValue(i.Value, size)
			if err != api.OK || s[15:] != v {
				t.Fatalf("PutValue(%+v, %d): %q, %d", i.Value, size, v, err)
			}
			wantGet(t, s, 15, size, i.Value, len(s), api.OK)
		}
	}
}

// P16.6: what was read is written as the same bytes, and nothing is read but what may be.
func TestWrittenAgain(t *testing.T) {
	read, all := 0, 0
	for _, size := range []int{1, 3, 7} {
		for _, i := range right(size, 12) {
			s := instanceBytes(i, size)
			for at := range s {
				for _, n := range []byte{0, 1, 2, 3, 4, 6, 7, 9, 63, 64, 127, 128, 144, 145, 255} {
					all++
					text := s[:at] + string([]byte{n}) + s[at+1:]
					x, err := record.Read(text, size)
					if err == api.OK {
						read++
						wantRight(t, x, size, true)
						wantWrite(t, x, size, text, api.OK)
					} else {
						wantNotRead(t, text, size, api.ErrForm)
					}
				}
			}
		}
	}
	if read < 1000 || all-read < 1000 {
		t.Errorf("%d of %d texts were read", read, all)
	}
}

// P16.6: values that are got are put as the same bytes.
func TestPutAgain(t *testing.T) {
	d, got := dice(9), 0
	for range 20000 {
		size := 1 + d.below(7)
		b := []byte(valueBytes(d.value(size), size))
		for range 1 + d.below(2) {
			b[d.below(len(b))] = byte(d.pick(0, 255))
		}
		v, next, err := record.GetValue(string(b), 0, size)
		if err != api.OK {
			wantNotGot(t, string(b), 0, size, api.ErrForm)
			continue
		}
		got++
		wantPut(t, v, size, string(b[:next]), api.OK)
	}
	if got < 1000 || got > 19000 {
		t.Errorf("%d values were got", got)
	}
}

// P16.7: whatever is cut off, it is rejected: at the end, and at the beginning.
func TestCutOff(t *testing.T) {
	for size := 1; size <= mostSize; size++ {
		for _, i := range right(size, 30) {
			s := instanceBytes(i, size)
			for cut := range len(s) {
				wantNotRead(t, s[:cut], size, api.ErrShort)
				if cut == 0 {
					continue
				}
				if _, err := record.Read(s[cut:], size); err == api.OK {
					t.Errorf("Read of %q without %d bytes", s, cut)
				}
			}
			v := s[15:]
			for cut := range len(v) {
				wantNotGot(t, v[:cut], 0, size, api.ErrShort)
			}
		}
	}
}

// R1, R4: no call panics, and each answers the same again.
func TestNoPanic(t *testing.T) {
	texts := []string{"", "x", strings.Repeat("\xff", 60), strings.Repeat("\x00", 64), strings.Repeat("\x01", 49), instanceBytes(plain(), 3)}
	for _, s := range texts {
		for _, size := range append(numbers(), sizes()...) {
			i, err := record.Read(s, size)
			wantRead(t, s, size, i, err)
			for _, at := range numbers() {
				v, next, err := record.GetValue(s, at, size)
				wantGet(t, s, at, size, v, next, err)
			}
		}
	}
	for _, i := range changed(plain()) {
		for _, size := range numbers() {
			s, err := record.Write(i, size)
			wantWrite(t, i, size, s, err)
			s, err = record.PutValue(i.Value, size)
			wantPut(t, i.Value, size, s, err)
			wantRight(t, i, size, isInstance(i, size))
		}
	}
}
