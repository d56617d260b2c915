package store_test

import (
	"encoding/binary"
	"fmt"
	"hash/crc32"
	"math"
	"slices"
	"strings"
	"testing"

	"cambist/api"
	"cambist/disk"
	"cambist/record"
	"cambist/store"
)

// The limits by the chapters' own figures.
const (
	mostSize   = 7
	mostSlot   = 400
	mostBallot = 1073741824
	mostDisk   = 60000
)

// numbers are ints of all sorts: the least and the greatest ones, and those about each limit.
func numbers() []int {
	return []int{
		math.MinInt, math.MinInt + 1, math.MinInt32, -mostBallot, -255, -2, -1, 0, 1, 2, 3, 4, 7, 8, 255, 256, 257, 65536,
		mostBallot - 2, mostBallot - 1, mostBallot, mostBallot + 1, math.MaxInt32, 1 << 32, 1<<32 + 1, math.MaxInt - 1, math.MaxInt,
	}
}

// dice tells numbers that look thrown, the same ones at each run.
type dice uint64

func (d *dice) below(n int) int {
	*d = *d*6364136223846793005 + 1442695040888963407
	return int(*d>>33) % n
}

// at is an instance of that place that may be in every cluster that has the replica; different marks make different ones.
func at(replica, slot, mark int) api.Instance {
	return api.Instance{
		Place:    api.Place{Replica: replica, Slot: slot},
		Promised: api.Ballot{Number: mark, Replica: replica},
		Status:   api.InsPre,
		Value:    api.Value{Cmd: api.Cmd{Kind: api.CmdTop, Client: 3, Seq: 9}, Seq: mark},
	}
}

// bad is an instance that no cluster has.
func bad(replica, slot int) api.Instance {
	i := at(replica, slot, 1)
	i.Status = 4
	return i
}

// frame is a load as a frame, by chapter 2.
func frame(load string) string {
	b := binary.BigEndian.AppendUint16(nil, uint16(len(load)))
	b = append(b, load...)
	return string(binary.LittleEndian.AppendUint32(b, crc32.ChecksumIEEE(b)))
}

// mark is a load of that kind with a generation.
func mark(kind string, gen int) string {
	return string(binary.BigEndian.AppendUint32([]byte(kind), uint32(gen)))
}

func first(gen int) string {
	return frame(mark("H", gen))
}

func closed(gen int) string {
	return frame(mark("C", gen))
}

// entry is the frame of an instance that may be.
func entry(i api.Instance, size int) string {
	s, err := record.Write(i, size)
	if err != api.OK {
		panic("an instance that may not be")
	}
	return frame("R" + s)
}

func entries(size int, l ...api.Instance) string {
	s := ""
	for _, i := range l {
		s += entry(i, size)
	}
	return s
}

// whole is a zone into which a table was written anew.
func whole(gen, size int, l ...api.Instance) string {
	return first(gen) + entries(size, l...) + closed(gen)
}

// of is a disk that is up, on which all is safe, with room for 1000 bytes, of which the power doesn't fail.
func of(a, b string) api.Disk {
	return api.Disk{Safe: [2]string{a, b}, Cap: 1000, Fuse: -1}
}

// with is d with another capacity and fuse.
func with(d api.Disk, room, fuse int) api.Disk {
	d.Cap, d.Fuse = room, fuse
	return d
}

func down(d api.Disk) api.Disk {
	d.Down = true
	return d
}

// loads cuts the frames that s begins with, by chapter 2, and tells what is left of s.
func loads(s string) ([]string, string) {
	l := []string{}
	for len(s) >= 6 {
		n := int(binary.BigEndian.Uint16([]byte(s)))
		if n > 2000 || len(s) < n+6 || frame(s[2:n+2]) != s[:n+6] {
			break
		}
		l, s = append(l, s[2:n+2]), s[n+6:]
	}
	return l, s
}

// merge is the table in which each instance of l replaces the one of its place, or is inserted: all places, each with the last instance that was told of it.
func merge(table, l []api.Instance) []api.Instance {
	latest := map[api.Place]api.Instance{}
	for _, i := range slices.Concat(table, l) {
		latest[i.Place] = i
	}
	all := []api.Instance{}
	for _, i := range latest {
		all = append(all, i)
	}
	slices.SortFunc(all, func(a, b api.Instance) int {
		if a.Place.Replica != b.Place.Replica {
			return a.Place.Replica - b.Place.Replica
		}
		return a.Place.Slot - b.Place.Slot
	})
	return all
}

// zoneState is what a zone states, by the chapter's definition.
type zoneState struct {
	gen             int
	table           []api.Instance
	complete, clean bool
}

func stated(held string, size int) zoneState {
	l, left := loads(held)
	if len(l) == 0 || len(l[0]) != 5 || l[0][0] != 'H' {
		return zoneState{}
	}
	z := zoneState{gen: int(binary.BigEndian.Uint32([]byte(l[0][1:]))), clean: left == ""}
	if z.gen == 0 {
		return zoneState{}
	}
	told := []api.Instance{}
	for _, load := range l[1:] {
		if load == mark("C", z.gen) && !z.complete {
			z.complete = true
			continue
		}
		i, err := api.Instance{}, api.ErrForm
		if load != "" && load[0] == 'R' {
			i, err = record.Read(load[1:], size)
		}
		if err != api.OK {
			z.clean = false
			break
		}
		told = append(told, i)
	}
	z.table = merge(nil, told)
	return z
}

// answer is what Open and Append tell, and, with no error, what Table tells.
type answer struct {
	disk       api.Disk
	table      []api.Instance
	where, gen int
	clean      bool
	err        api.Errno
}

func held(d api.Disk, zone int) string {
	s, err := disk.Read(d, zone)
	if err != api.OK {
		panic("a disk that is down")
	}
	return s
}

// tabled is what Table has to tell.
func tabled(d api.Disk, size int) answer {
	if d.Down {
		return answer{}
	}
	a, b := stated(held(d, 0), size), stated(held(d, 1), size)
	if b.complete && (!a.complete || b.gen > a.gen) {
		return answer{table: b.table, where: 1, gen: b.gen, clean: b.clean}
	}
	if a.complete {
		return answer{table: a.table, gen: a.gen, clean: a.clean}
	}
	return answer{}
}

// chain does the operations on the disk up to the first one that gives an error.
func chain(d api.Disk, operations ...func(d api.Disk) (api.Disk, api.Errno)) (api.Disk, api.Errno) {
	err := api.OK
	for _, do := range operations {
		if d, err = do(d); err != api.OK {
			return d, err
		}
	}
	return d, api.OK
}

func appending(zone int, data string) func(d api.Disk) (api.Disk, api.Errno) {
	return func(d api.Disk) (api.Disk, api.Errno) { return disk.Append(d, zone, data) }
}

func erasing(zone int) func(d api.Disk) (api.Disk, api.Errno) {
	return func(d api.Disk) (api.Disk, api.Errno) { return disk.Erase(d, zone) }
}

// rewritten is the disk behind rewriting, and the error.
func rewritten(d api.Disk, table []api.Instance, zone, gen, size int) (api.Disk, api.Errno) {
	for _, i := range table {
		if !record.Right(i, size) {
			return d, api.ErrArg
		}
	}
	data := whole(gen, size, table...)
	if len(data) > d.Cap || len(data) > mostDisk || gen > mostBallot {
		return d, api.ErrFull
	}
	return chain(d, erasing(zone), appending(zone, data), disk.Sync)
}

// opened is what Open has to tell.
func opened(d api.Disk, size int) answer {
	if d.Down {
		return answer{disk: d, err: api.ErrDown}
	}
	if size < 1 || size > mostSize {
		return answer{disk: d, err: api.ErrArg}
	}
	a := tabled(d, size)
	if a.clean {
		return answer{disk: d, table: a.table, where: a.where, gen: a.gen}
	}
	zone := 0
	if a.gen > 0 && a.where == 0 {
		zone = 1
	}
	d, err := rewritten(d, a.table, zone, a.gen+1, size)
	if err != api.OK {
		return answer{disk: d, err: err}
	}
	return answer{disk: d, table: a.table, where: zone, gen: a.gen + 1}
}

// appended is what Append has to tell.
func appended(d api.Disk, table []api.Instance, where, gen, size int, l []api.Instance) answer {
	if d.Down {
		return answer{disk: d, table: table, where: where, gen: gen, err: api.ErrDown}
	}
	arg := len(l) == 0 || where != 0 && where != 1 || gen < 1
	for _, i := range l {
		arg = arg || !record.Right(i, size)
	}
	if arg {
		return answer{disk: d, table: table, where: where, gen: gen, err: api.ErrArg}
	}
	data := entries(size, l...)
	if len(data) > mostDisk {
		return answer{disk: d, table: table, where: where, gen: gen, err: api.ErrFull}
	}
	if len(held(d, where)+data) <= d.Cap {
		d, err := chain(d, appending(where, data), disk.Sync)
		if err != api.OK {
			return answer{disk: d, table: table, where: where, gen: gen, err: err}
		}
		return answer{disk: d, table: merge(table, l), where: where, gen: gen}
	}
	if gen > mostBallot {
		gen = mostBallot
	}
	d, err := rewritten(d, merge(table, l), 1-where, gen+1, size)
	if err != api.OK {
		return answer{disk: d, table: table, where: where, gen: gen, err: err}
	}
	return answer{disk: d, table: merge(table, l), where: 1 - where, gen: gen + 1}
}

func sameDisk(a, b api.Disk) bool {
	return a.Safe == b.Safe && slices.Equal(a.Ops, b.Ops) && a.Cap == b.Cap && a.Fuse == b.Fuse && a.Down == b.Down
}

func same(a, b answer) bool {
	return sameDisk(a.disk, b.disk) && slices.Equal(a.table, b.table) && a.where == b.where && a.gen == b.gen && a.clean == b.clean && a.err == b.err
}

// show is x in some characters.
func show(x any) string {
	s := fmt.Sprintf("%+v", x)
	return s[:min(len(s), 400)]
}

func wantSame(t *testing.T, what string, got, want answer) {
	t.Helper()
	if !same(got, want) {
		t.Errorf("%s: %s, want %s", what, show(got), show(want))
	}
}

// wantTable holds what Table tells against the chapter's definitions, twice: it has to tell the same each time.
func wantTable(t *testing.T, d api.Disk, size int) {
	t.Helper()
	kept := keep(d)
	for range 2 {
		table, where, gen, clean := store.Table(d, size)
		wantSame(t, "Table of "+show(d), answer{table: table, where: where, gen: gen, clean: clean}, tabled(d, size))
		spoil(table)
	}
	wantKept(t, d, kept)
}

// wantOpen holds what Open tells against the chapter's words, twice, and tells it.
func wantOpen(t *testing.T, d api.Disk, size int) answer {
	t.Helper()
	kept, got := keep(d), answer{}
	for range 2 {
		after, table, where, gen, err := store.Open(d, size)
		got = answer{disk: after, table: slices.Clone(table), where: where, gen: gen, err: err}
		wantSame(t, fmt.Sprint("Open for ", size, " of ", show(d)), got, opened(kept, size))
		spoil(table)
	}
	wantKept(t, d, kept)
	return got
}

// wantAppend holds what Append tells against the chapter's words, twice, and tells it.
func wantAppend(t *testing.T, d api.Disk, table []api.Instance, where, gen, size int, l []api.Instance) answer {
	t.Helper()
	kept, keptTable, keptList, got := keep(d), slices.Clone(table), slices.Clone(l), answer{}
	for range 2 {
		after, more, w, g, err := store.Append(d, table, where, gen, size, l)
		got = answer{disk: after, table: slices.Clone(more), where: w, gen: g, err: err}
		want := appended(kept, keptTable, where, gen, size, keptList)
		if want.err != api.OK {
			want.gen = gen
		}
		wantSame(t, fmt.Sprint("Append for ", size, " of ", len(l), " to ", len(table), " in ", where, " of ", gen, " on ", show(d)), got, want)
		if err == api.OK {
			spoil(more)
		}
	}
	wantKept(t, d, kept)
	if !slices.Equal(table, keptTable) || !slices.Equal(l, keptList) {
		t.Errorf("Append changed its arguments")
	}
	return got
}

// keep is d with a list of its own.
func keep(d api.Disk) api.Disk {
	d.Ops = slices.Clone(d.Ops)
	return d
}

func wantKept(t *testing.T, d, kept api.Disk) {
	t.Helper()
	if !sameDisk(d, kept) {
		t.Errorf("the disk that was handed in is changed: %s, want %s", show(d), show(kept))
	}
}

// spoil changes all of l and what lies behind it, which nobody else may see.
func spoil(l []api.Instance) {
	l = l[:cap(l)]
	for i := range l {
		l[i] = bad(6, 399)
	}
}

// zones are zones of all sorts for a cluster of three replicas.
func zones() []string {
	a, b, c := at(0, 2, 1), at(1, 1, 2), at(2, 400, 3)
	newer := at(1, 1, 5)
	good := whole(3, 3, a, b)
	return []string{
		"", "H", first(3), closed(3), entry(a, 3), first(0), whole(0, 3), whole(0, 3, a),
		whole(1, 3), whole(2, 3), whole(3, 3), good, whole(2, 3, b, c), whole(3, 3, a, b, c),
		whole(mostBallot-1, 3, a), whole(mostBallot, 3, b), whole(mostBallot+1, 3, c), whole(1<<32-1, 3, a),
		good + entry(c, 3), good + entry(newer, 3), good + entries(3, newer, c, b), whole(3, 3, c, b, a, newer) + entry(at(0, 1, 7), 3),
		first(3) + entries(3, a, b), first(3) + closed(2), first(3) + closed(2) + closed(3), first(3) + entry(a, 3) + closed(4) + closed(3),
		good + closed(3), good + closed(3) + entry(c, 3), good + closed(2), good + first(3), good + first(4) + closed(4), first(3) + first(3) + closed(3),
		closed(3) + first(3), entry(a, 3) + first(3) + closed(3), entry(a, 3) + closed(1), frame("X") + closed(1), frame("H\x00\x00\x01") + closed(1), frame("") + good, frame("h\x00\x00\x00\x03") + closed(3),
		frame("H\x00\x00\x03") + closed(3), frame("H\x00\x00\x00\x03\x00") + closed(3), frame("H") + closed(0), frame("\x00\x00\x00\x03") + closed(3),
		first(3) + frame("C\x00\x00\x03"), first(3) + frame("C\x00\x00\x00\x03\x00"), first(3) + frame("C"), first(3) + frame("c\x00\x00\x00\x03"),
		good + frame(""), good + frame("") + entry(c, 3), good + frame("X") + entry(c, 3), good + frame("R") + entry(c, 3),
		good + entry(c, 5) + entry(c, 3), good + frame("R"+strings.Repeat("\x00", 55)), first(3) + entry(a, 4) + closed(3), whole(3, 2, a, b),
		first(3) + frame("RR") + closed(3), good + frame("R"+loadOf(c)+"\x00"), good + frame("r"+loadOf(c)), good + frame(loadOf(c)), good + frame("R"+loadOf(c)[1:]),
		good + entry(c, 3)[:61], good + entry(c, 3)[:1], good + "\x00", good + "\x00\x00\x00\x00\x00\x00", good[:len(good)-1], good[:12], good[:11], good[:10],
		flip(good, 5), flip(good, 20), flip(good, len(good)-1), flip(good+entry(c, 3), len(good)+9), flip(good+entry(newer, 3)+entry(c, 3), len(good)+30),
		"\x00" + good, good + "\x07\xd1" + strings.Repeat("x", 2005), good + frame(strings.Repeat("R", 2000)), good + good,
	}
}

func loadOf(i api.Instance) string {
	s, _ := record.Write(i, 3)
	return s
}

// flip is s but for one bit.
func flip(s string, at int) string {
	b := []byte(s)
	b[at] ^= 4
	return string(b)
}

// sizes are sizes that a cluster may have, and such as it may not.
func sizes() []int {
	return []int{3, 1, 2, 4, 7, 0, 8, -1, 255, 256 + 3, math.MinInt, math.MaxInt}
}

// P17.1: of the complete zones Table takes the one of the greater generation, zone 0 of equal ones, and it tells whether all of it was read.
func TestTableOfAllZones(t *testing.T) {
	for _, a := range zones() {
		for _, b := range zones() {
			wantTable(t, of(a, b), 3)
		}
		for _, size := range sizes() {
			wantTable(t, of(a, ""), size)
			wantTable(t, of("", a), size)
			wantTable(t, of(a, whole(2, 3)), size)
		}
	}
}

// P17.1: figures that are not worked out by this test.
func TestTableFigures(t *testing.T) {
	a, b, newer := at(0, 2, 1), at(1, 1, 2), at(1, 1, 5)
	figures := []struct {
		name string
		d    api.Disk
		want answer
	}{
		{"nothing", of("", ""), answer{}},
		{"not complete", of(first(4)+entry(a, 3), ""), answer{}},
		{"the newer one of zone 1", of(whole(2, 3, a), whole(3, 3, b)), answer{table: []api.Instance{b}, where: 1, gen: 3, clean: true}},
		{"the newer one of zone 0", of(whole(3, 3, a), whole(2, 3, b)), answer{table: []api.Instance{a}, gen: 3, clean: true}},
		{"equal ones", of(whole(2, 3, a), whole(2, 3, b)), answer{table: []api.Instance{a}, gen: 2, clean: true}},
		{"the newer one is not complete", of(whole(2, 3, a), first(3)+entry(b, 3)), answer{table: []api.Instance{a}, gen: 2, clean: true}},
		{"a later instance", of(whole(1, 3, b)+entries(3, a, newer), ""), answer{table: []api.Instance{a, newer}, gen: 1, clean: true}},
		{"torn", of("", whole(1, 3, a)+entry(b, 3)[:40]), answer{table: []api.Instance{a}, where: 1, gen: 1}},
		{"closed twice", of(whole(1, 3, a)+closed(1)+entry(b, 3), ""), answer{table: []api.Instance{a}, gen: 1}},
		{"of generation 0", of(whole(0, 3, a), ""), answer{}},
		{"down", down(of(whole(1, 3, a), "")), answer{}},
	}
	for _, f := range figures {
		table, where, gen, clean := store.Table(f.d, 3)
		wantSame(t, f.name, answer{table: table, where: where, gen: gen, clean: clean}, f.want)
	}
}

// P17.1: what is not synced counts, too; a disk that is down can't be read.
func TestTableReadsWhatIsNotSafe(t *testing.T) {
	a, b := at(0, 2, 1), at(1, 1, 2)
	d := of(whole(2, 3, a), "")
	d.Ops = []api.DiskOp{{Zone: 0, Data: entry(b, 3)}}
	wantTable(t, d, 3)
	table, _, _, _ := store.Table(d, 3)
	if !slices.Equal(table, []api.Instance{a, b}) {
		t.Errorf("Table tells %s of what is not synced", show(table))
	}
	d.Ops = append(d.Ops, api.DiskOp{Zone: 1, Data: whole(5, 3)}, api.DiskOp{Zone: 0, Erase: true})
	wantTable(t, d, 3)
	wantTable(t, down(d), 3)
	wantTable(t, api.Disk{}, 3)
	wantTable(t, api.Disk{Down: true}, 3)
}

// P17.2: Open tells what Table told, or writes it anew into the other zone.
func TestOpenOfAllZones(t *testing.T) {
	for _, a := range zones() {
		for i, b := range zones() {
			wantOpen(t, of(a, b), 3)
			wantOpen(t, with(of(a, b), 1000, i%4), 3)
		}
		for _, size := range sizes() {
			wantOpen(t, of(a, ""), size)
			wantOpen(t, of("", a), size)
			wantOpen(t, down(of(a, "")), size)
			wantOpen(t, with(of(a, whole(2, 3)), 0, 0), size)
		}
	}
}

// P17.2: room that is just enough, and that is too small by one byte; a power that fails at each operation.
func TestOpenWithLittleRoom(t *testing.T) {
	a, b := at(0, 2, 1), at(2, 1, 2)
	for _, d := range []api.Disk{of("", ""), of("x", "y"), of(whole(4, 3)+"x", "z"), of(whole(2, 3, a)+"x", whole(1, 3)), of(whole(2, 3), whole(6, 3, a, b)+"x")} {
		for _, room := range []int{0, 1, 21, 22, 23, 83, 84, 85, 145, 146, 147, -1, math.MinInt, mostDisk, mostDisk + 1, math.MaxInt} {
			for _, fuse := range []int{-1, 0, 1, 2, 3, 4, math.MinInt, math.MaxInt} {
				wantOpen(t, with(d, room, fuse), 3)
			}
		}
	}
}

// P17.2: the chapter's example, and other figures.
func TestOpenFigures(t *testing.T) {
	d, table, where, gen, err := store.Open(disk.New(140), 3)
	wantSame(t, "new", answer{d, table, where, gen, false, err}, answer{disk: with(of(whole(1, 3), ""), 140, -1), gen: 1})
	if len(d.Safe[0]) != 22 || where != 0 || gen != 1 || len(table) != 0 || err != api.OK {
		t.Errorf("a new disk that is opened: %d bytes, zone %d, generation %d, %d instances, %d", len(d.Safe[0]), where, gen, len(table), err)
	}
}

func TestOpenMovesWhatWasTorn(t *testing.T) {
	a, b := at(0, 2, 1), at(1, 1, 2)
	torn := of("old", whole(6, 3, b)+entry(a, 3)+"torn")
	d, table, where, gen, err := store.Open(torn, 3)
	wantSame(t, "torn", answer{d, table, where, gen, false, err}, answer{disk: of(whole(7, 3, a, b), torn.Safe[1]), table: []api.Instance{a, b}, gen: 7})
	torn = of(whole(6, 3, b)+"torn", "old")
	d, table, where, gen, err = store.Open(torn, 3)
	wantSame(t, "torn", answer{d, table, where, gen, false, err}, answer{disk: of(torn.Safe[0], whole(7, 3, b)), table: []api.Instance{b}, where: 1, gen: 7})
	for _, d := range []api.Disk{of(whole(mostBallot, 3)+"x", ""), of("", whole(1<<32-1, 3)+"x"), with(of("", ""), 21, 0)} {
		after, table, where, gen, err := store.Open(d, 3)
		wantSame(t, "full", answer{after, table, where, gen, false, err}, answer{disk: d, err: api.ErrFull})
	}
	after, _, _, gen, err := store.Open(of(whole(mostBallot-1, 3)+"x", ""), 3)
	if err != api.OK || gen != mostBallot || after.Safe[1] != whole(mostBallot, 3) {
		t.Errorf("the last generation: %d, %d", gen, err)
	}
}

// someTables are tables that a cluster of three replicas may have.
func someTables() [][]api.Instance {
	return [][]api.Instance{
		nil, {at(0, 1, 1)}, {at(1, 5, 1)}, {at(0, 1, 1), at(0, 2, 1), at(1, 1, 1), at(2, 400, 1)}, {at(0, 400, 1), at(1, 1, 1), at(2, 7, 1)},
	}
}

// someLists are instances that are added.
func someLists() [][]api.Instance {
	return [][]api.Instance{
		{at(1, 5, 2)}, {at(0, 1, 2)}, {at(2, 400, 2)}, {at(2, 400, 2), at(0, 1, 3), at(1, 3, 4)}, {at(1, 5, 2), at(1, 5, 3)},
		{at(0, 2, 2), at(0, 3, 2), at(0, 2, 3), at(0, 1, 2)}, {{Place: api.Place{Slot: 9}}},
	}
}

// P17.3: instances are added behind the zone, or with the whole table to the other one; room that is just enough, and a power that fails at each operation.
func TestAppend(t *testing.T) {
	for _, table := range someTables() {
		for _, l := range someLists() {
			for where, d := range []api.Disk{of(whole(5, 3, table...), "old"), of("old", whole(5, 3, table...))} {
				end, all := len(d.Safe[where])+62*len(l), 22+62*len(merge(table, l))
				for _, room := range []int{1000, end, end - 1, all, all - 1, 0, -1, math.MinInt, math.MaxInt} {
					for _, fuse := range []int{-1, 0, 1, 2, 3, 4} {
						wantAppend(t, with(d, room, fuse), table, where, 5, 3, l)
					}
				}
			}
		}
	}
}

// P17.3: a zone, a generation, a size, an instance or a list that may not be; a disk that is down comes first.
func TestAppendOfWhatMayNotBe(t *testing.T) {
	table := []api.Instance{at(0, 1, 1)}
	d := of(whole(5, 3, table...), whole(4, 3))
	for _, n := range numbers() {
		for _, x := range []api.Disk{d, down(d), with(d, 84, -1), with(d, 84, 0), with(d, 0, -1)} {
			wantAppend(t, x, table, n, 5, 3, []api.Instance{at(0, 1, 2)})
			wantAppend(t, x, table, 0, n, 3, []api.Instance{at(0, 1, 2)})
			wantAppend(t, x, table, 1, n, 3, []api.Instance{at(0, 1, 2)})
			wantAppend(t, x, table, 0, 5, n, []api.Instance{at(0, 1, 2)})
			wantAppend(t, x, table, 0, 5, 3, []api.Instance{at(0, 1, 2), at(n, 1, 2)})
			wantAppend(t, x, table, 0, 5, 3, []api.Instance{at(0, n, 2)})
			wantAppend(t, x, table, n, n, n, nil)
		}
	}
	for _, x := range []api.Disk{d, down(d), with(d, 84, 0), with(d, 0, 0)} {
		wantAppend(t, x, table, 0, 5, 3, nil)
		wantAppend(t, x, table, 0, 5, 3, []api.Instance{})
		wantAppend(t, x, table, 0, 5, 3, []api.Instance{bad(0, 1)})
		wantAppend(t, x, table, 0, 5, 3, []api.Instance{at(0, 1, 1), bad(0, 1), at(0, 1, 2)})
		wantAppend(t, x, table, 0, 5, 2, []api.Instance{at(2, 1, 1)})
		wantAppend(t, x, table, 0, 5, 3, []api.Instance{{}})
	}
}

// P17.3: an instance of the table that can't be written counts when the table is rewritten, ahead of a lack of room, and not if it is replaced.
func TestAppendToWhatMayNotBe(t *testing.T) {
	table := []api.Instance{at(0, 1, 1), bad(1, 1)}
	d := of(whole(5, 3, table[:1]...), "")
	for _, room := range []int{1000, 146, 145, 84, 0} {
		for _, gen := range []int{5, mostBallot, math.MaxInt} {
			wantAppend(t, with(d, room, 0), table, 0, gen, 3, []api.Instance{at(2, 1, 2)})
			wantAppend(t, with(d, room, -1), table, 0, gen, 3, []api.Instance{at(1, 1, 2)})
		}
	}
	after, more, where, gen, err := store.Append(with(d, 84, 0), table, 0, 5, 3, []api.Instance{at(2, 1, 2)})
	wantSame(t, "a table that can't be written", answer{after, more, where, gen, false, err}, answer{disk: with(d, 84, 0), table: table, gen: 5, err: api.ErrArg})
}

// P17.3: the last generation.
func TestAppendInTheLastGeneration(t *testing.T) {
	table, l := []api.Instance{at(0, 1, 1)}, []api.Instance{at(0, 1, 2)}
	figures := []struct {
		room, gen int
		where     int
		next      int
		err       api.Errno
	}{
		{146, mostBallot, 0, mostBallot, api.OK}, {146, math.MaxInt, 0, math.MaxInt, api.OK},
		{145, mostBallot - 1, 1, mostBallot, api.OK}, {145, mostBallot, 0, mostBallot, api.ErrFull}, {145, math.MaxInt, 0, math.MaxInt, api.ErrFull},
	}
	for _, f := range figures {
		d := with(of(whole(mostBallot, 3, table...), ""), f.room, -1)
		_, _, where, gen, err := store.Append(d, table, 0, f.gen, 3, l)
		if where != f.where || gen != f.next || err != f.err {
			t.Errorf("room %d, generation %d: zone %d, generation %d, %d", f.room, f.gen, where, gen, err)
		}
		wantAppend(t, d, table, 0, f.gen, 3, l)
	}
}

// P17.3: the chapter's example.
func TestAppendFigures(t *testing.T) {
	i, j, k := at(1, 2, 0), at(1, 2, 1), at(1, 3, 0)
	d, table, where, gen, err := store.Open(disk.New(140), 3)
	d, table, where, gen, err = store.Append(d, table, where, gen, 3, []api.Instance{i})
	wantSame(t, "one", answer{d, table, where, gen, false, err}, answer{disk: with(of(whole(1, 3)+entry(i, 3), ""), 140, -1), table: []api.Instance{i}, gen: 1})
	d, table, where, gen, err = store.Append(d, table, where, gen, 3, []api.Instance{j})
	moved := with(of(whole(1, 3)+entry(i, 3), whole(2, 3, j)), 140, -1)
	wantSame(t, "a new version", answer{d, table, where, gen, false, err}, answer{disk: moved, table: []api.Instance{j}, where: 1, gen: 2})
	after, more, w, g, err := store.Append(d, table, where, gen, 3, []api.Instance{i, k})
	wantSame(t, "full", answer{after, more, w, g, false, err}, answer{disk: moved, table: []api.Instance{j}, where: 1, gen: 2, err: api.ErrFull})
}

// many are count instances of different places in a cluster of seven replicas.
func many(count, mark int) []api.Instance {
	l := []api.Instance{}
	for n := range count {
		l = append(l, at(n/mostSlot, n%mostSlot+1, mark))
	}
	return l
}

// P17.3: frames of more than 60000 bytes are never appended, and such a table is never rewritten, even if a disk that was handed in has the room. One instance takes 70 bytes.
func TestAppendOfMoreThanAZone(t *testing.T) {
	for _, room := range []int{mostDisk, math.MaxInt} {
		d := with(of(whole(1, 7), ""), room, -1)
		wantAppend(t, d, nil, 0, 1, 7, many(857, 1))
		wantAppend(t, d, nil, 0, 1, 7, many(858, 1))
		wantAppend(t, d, nil, 0, 1, 7, append(many(858, 1), bad(0, 1)))
		wantAppend(t, with(d, room, 0), nil, 0, 1, 7, many(858, 1))
		for _, n := range []int{-1, 2, 3, math.MinInt, math.MaxInt} {
			wantAppend(t, d, nil, n, 1, 7, many(858, 1))
		}
	}
	big := many(1000, 1)
	for _, room := range []int{mostDisk, mostDisk + 10021, mostDisk + 10022, mostDisk + 10092} {
		d := with(of(whole(1, 7, big...), whole(1, 7)), room, -1)
		wantAppend(t, d, big, 0, 1, 7, many(1, 2))
		wantAppend(t, with(d, room, 0), big, 0, 1, 7, many(1, 2))
		wantOpen(t, d, 7)
		wantOpen(t, with(of(whole(1, 7, big...)+"x", whole(1, 7)), room, 0), 7)
	}
}

// P17.4: Size is the length of what rewriting writes, of any table.
func TestSize(t *testing.T) {
	for size := 1; size <= mostSize; size++ {
		for count := range 5 {
			table := many(count, 1)
			if got, want := store.Size(table, size), len(whole(1, size, table...)); got != want {
				t.Errorf("Size of %d for %d: %d, want %d", count, size, got, want)
			}
		}
	}
	figures := []struct {
		table      []api.Instance
		size, want int
	}{
		{nil, 3, 22}, {[]api.Instance{}, 3, 22}, {[]api.Instance{at(1, 2, 1)}, 3, 84}, {[]api.Instance{at(1, 2, 1)}, 2, 82}, {many(1000, 1), 7, 70022}, {many(2800, 1), 7, 196022},
		{[]api.Instance{at(1, 2, 1)}, 1, 0}, {[]api.Instance{bad(0, 1)}, 3, 0}, {[]api.Instance{at(0, 1, 1), bad(0, 2)}, 3, 0}, {[]api.Instance{{}}, 3, 0},
		{[]api.Instance{at(0, 1, 1), at(0, 401, 1)}, 3, 0}, {[]api.Instance{at(0, 1, 1)}, 0, 0}, {[]api.Instance{at(0, 1, 1)}, 8, 0},
		{[]api.Instance{at(0, 1, 1)}, math.MinInt, 0}, {[]api.Instance{at(0, 1, 1)}, math.MaxInt, 0},
	}
	for _, f := range figures {
		if got := store.Size(f.table, f.size); got != f.want {
			t.Errorf("Size of %d for %d: %d, want %d", len(f.table), f.size, got, f.want)
		}
	}
}

// P17.4: a table that was rewritten takes as many bytes as Size tells, and fits into just these.
func TestSizeIsWhatIsWritten(t *testing.T) {
	for _, table := range someTables()[1:] {
		n := store.Size(table, 3)
		torn := of(whole(1, 3, table...)+"x", "")
		if a := wantOpen(t, with(torn, n, -1), 3); a.err != api.OK || len(a.disk.Safe[1]) != n {
			t.Errorf("%d instances: %d, %d bytes, want %d", len(table), a.err, len(a.disk.Safe[1]), n)
		}
		if a := wantOpen(t, with(torn, n-1, -1), 3); a.err != api.ErrFull {
			t.Errorf("%d instances fit into %d bytes", len(table), n-1)
		}
	}
}

// crashes are all disks that a loss of power may leave of d.
func crashes(d api.Disk) []api.Disk {
	l := []api.Disk{}
	for kept := range len(d.Ops) + 1 {
		torn := 0
		if kept < len(d.Ops) {
			torn = len(d.Ops[kept].Data)
		}
		for bytes := range torn + 1 {
			l = append(l, disk.Start(disk.Crash(d, kept, bytes)))
		}
	}
	return l
}

// unsynced are the disks that are there at some moment of a call: for each fuse, what it leaves.
func unsynced(d api.Disk, call func(d api.Disk) (api.Disk, api.Errno)) []api.Disk {
	l := []api.Disk{}
	for fuse := range 4 {
		after, err := call(disk.Arm(d, fuse))
		if err == api.ErrDown {
			l = append(l, after)
		}
	}
	return l
}

// wantOneOf opens d and wants one of the tables; the store goes on from there.
func wantOneOf(t *testing.T, what string, d api.Disk, size int, tables ...[]api.Instance) {
	t.Helper()
	d, table, where, gen, err := store.Open(d, size)
	found := slices.ContainsFunc(tables, func(l []api.Instance) bool { return slices.Equal(l, table) })
	if err != api.OK || !found {
		t.Fatalf("%s: %d, %s", what, err, show(table))
	}
	l := []api.Instance{at(0, 77, 7)}
	d, table, _, _, err = store.Append(d, table, where, gen, size, l)
	if err != api.OK {
		t.Fatalf("%s: nothing can be added any more: %d", what, err)
	}
	wantThere(t, what, d, size, table)
}

// wantThere wants the table after every crash of d.
func wantThere(t *testing.T, what string, d api.Disk, size int, want []api.Instance) {
	t.Helper()
	for _, x := range crashes(d) {
		if table, _, _, _ := store.Table(x, size); !slices.Equal(table, want) {
			t.Fatalf("%s: after a crash %s, want %s", what, show(table), show(want))
		}
	}
}

// P17.5: what Append told OK of is there after every crash; one during Append leaves the table, the new one, or some of the first instances with it.
func TestCrashDuringAppend(t *testing.T) {
	for _, table := range someTables() {
		for _, l := range someLists() {
			for where, d := range []api.Disk{of(whole(5, 3, table...), first(2)), of(whole(2, 3), whole(5, 3, table...))} {
				tables := [][]api.Instance{}
				for n := range len(l) + 1 {
					tables = append(tables, merge(table, l[:n]))
				}
				for _, room := range []int{1000, len(d.Safe[where]) + 62*len(l) - 1} {
					d := with(d, max(room, 22+62*len(merge(table, l))), -1)
					call := func(d api.Disk) (api.Disk, api.Errno) {
						d, _, _, _, err := store.Append(d, table, where, 5, 3, l)
						return d, err
					}
					after, err := call(d)
					if err != api.OK {
						t.Fatalf("Append: %d", err)
					}
					wantThere(t, "behind Append", after, 3, merge(table, l))
					for _, x := range unsynced(d, call) {
						for _, y := range crashes(x) {
							wantOneOf(t, "during Append", disk.Room(y, 1000), 3, tables...)
						}
					}
				}
			}
		}
	}
}

// P17.5: the tables that a crash leaves are all of these, if there was room: none, one and two of two instances.
func TestCrashLeavesTheFirstOnes(t *testing.T) {
	d, table, where, gen, _ := store.Open(disk.New(1000), 3)
	l := []api.Instance{at(2, 1, 1), at(0, 1, 1)}
	d, _, _, _, err := store.Append(disk.Arm(d, 1), table, where, gen, 3, l)
	if err != api.ErrDown {
		t.Fatalf("the power fails ahead of syncing: %d", err)
	}
	for torn, want := range map[int][]api.Instance{0: nil, 61: nil, 62: l[:1], 123: l[:1], 124: {l[1], l[0]}} {
		got, _, _, clean := store.Table(disk.Start(disk.Crash(d, 0, torn)), 3)
		if !slices.Equal(got, want) || clean != (torn%62 == 0) {
			t.Errorf("%d bytes: %s, %t", torn, show(got), clean)
		}
	}
}

// P17.6: a full disk keeps what it has; with more room the same call is done.
func TestFullDisk(t *testing.T) {
	for _, table := range someTables() {
		for _, l := range someLists() {
			for where, d := range []api.Disk{of(whole(5, 3, table...), whole(4, 3)), of(first(9), whole(5, 3, table...))} {
				d = with(d, min(len(d.Safe[where])+62*len(l), 22+62*len(merge(table, l)))-1, -1)
				after, _, _, _, err := store.Append(d, table, where, 5, 3, l)
				if err != api.ErrFull || !sameDisk(after, d) {
					t.Fatalf("a full disk: %d, %s", err, show(after))
				}
				wantThere(t, "full", after, 3, table)
				again := wantAppend(t, disk.Room(after, 1000), table, where, 5, 3, l)
				if again.err != api.OK {
					t.Errorf("with more room: %d", again.err)
				}
				wantThere(t, "with more room", again.disk, 3, merge(table, l))
			}
		}
	}
}

// P17.6: a call at which the power failed is done when it is repeated, with the power on and the store opened again, or just as it was.
func TestRepeatedCall(t *testing.T) {
	for _, table := range someTables() {
		for _, l := range someLists() {
			d := of(whole(5, 3, table...), "")
			for _, room := range []int{1000, max(len(d.Safe[0]), 22+62*len(merge(table, l)))} {
				for fuse := range 3 {
					x, old, where, gen, err := store.Append(with(d, room, fuse), table, 0, 5, 3, l)
					if err == api.OK {
						continue
					}
					if err != api.ErrDown || !slices.Equal(old, table) || where != 0 || gen != 5 {
						t.Fatalf("the power failed: %d, %s in %d of %d", err, show(old), where, gen)
					}
					for _, y := range append(crashes(x), disk.Start(x)) {
						y = disk.Arm(disk.Room(y, 1000), -1)
						y, old, where, gen, err := store.Open(y, 3)
						if err != api.OK {
							t.Fatalf("opened again: %d", err)
						}
						y, _, _, _, err = store.Append(y, old, where, gen, 3, l)
						if err != api.OK {
							t.Fatalf("repeated: %d", err)
						}
						wantThere(t, "repeated", y, 3, merge(table, l))
					}
					wantAppend(t, disk.Arm(disk.Start(x), -1), table, 0, 5, 3, l)
				}
			}
		}
	}
}

// P17.7: a store that is opened again has the same table, in the same zone, and nothing is written.
func TestOpenedAgain(t *testing.T) {
	var d dice = 17
	for round := range 20 {
		size := round%mostSize + 1
		x, table, where, gen, err := store.Open(disk.New(22+200*(round+1)), size)
		want := []api.Instance{}
		for step := range 60 {
			l := []api.Instance{}
			for range d.below(3) + 1 {
				l = append(l, at(d.below(size), d.below(8)+1, step+1))
			}
			a := wantAppend(t, x, table, where, gen, size, l)
			x, table, where, gen = a.disk, a.table, a.where, a.gen
			if a.err == api.OK {
				want = merge(want, l)
			}
			again := wantOpen(t, x, size)
			wantSame(t, "opened again", again, answer{disk: x, table: want, where: where, gen: gen, err: err})
			wantThere(t, "opened again", x, size, want)
		}
	}
}

// P17.7: a crash during Open loses nothing.
func TestCrashDuringOpen(t *testing.T) {
	a, b := at(0, 2, 1), at(2, 1, 2)
	for _, d := range []api.Disk{of("", ""), of("x", "y"), of(whole(4, 3, a)+entry(b, 3)+"x", whole(3, 3)), of(whole(2, 3)+"x", whole(5, 3, a, b)+entry(b, 3)[:9]), of(whole(2, 3, a, b)+"x", first(3))} {
		_, want, _, _, err := store.Open(d, 3)
		if err != api.OK {
			t.Fatalf("Open: %d", err)
		}
		call := func(d api.Disk) (api.Disk, api.Errno) {
			d, _, _, _, err := store.Open(d, 3)
			return d, err
		}
		left := unsynced(d, call)
		if len(left) != 3 {
			t.Fatalf("the power failed at %d operations", len(left))
		}
		for _, x := range left {
			for _, y := range crashes(x) {
				wantOneOf(t, "during Open", y, 3, want)
			}
		}
	}
}

// R1: every call ends, whatever it is given.
func TestAnyArguments(t *testing.T) {
	odd := []api.Disk{
		{}, {Fuse: math.MinInt, Cap: math.MinInt}, {Fuse: math.MaxInt, Cap: math.MaxInt}, {Fuse: -1, Cap: 1000, Safe: [2]string{"\xff\xff", "\x00"}},
		{Fuse: -1, Cap: 1000, Ops: []api.DiskOp{{Zone: -1, Data: "x"}, {Zone: math.MaxInt, Erase: true}, {Zone: 1, Data: whole(3, 3), Erase: true}, {Zone: 1}}},
	}
	unordered := []api.Instance{at(2, 1, 1), at(0, 1, 1), at(0, 1, 2), bad(1, 1), {Place: api.Place{Replica: math.MinInt, Slot: math.MaxInt}}}
	for _, d := range odd {
		for _, n := range numbers() {
			wantOpen(t, d, n)
			wantTable(t, d, n)
			store.Append(d, unordered, 0, 1, n, []api.Instance{at(0, 1, 5)})
			store.Append(d, unordered, n, n, n, unordered)
			store.Append(d, unordered, 1, n, 3, []api.Instance{at(0, 1, 5), at(1, 1, 5)})
			store.Size(unordered, n)
		}
	}
}

// R3: what was handed in is unchanged, up to its spare capacity, and what is told shares nothing with it.
func TestMemory(t *testing.T) {
	back := []api.Instance{at(0, 1, 1), at(1, 1, 1), at(2, 1, 1), at(2, 2, 1), at(2, 3, 1)}
	ops := []api.DiskOp{{Zone: 0, Data: entry(at(1, 1, 1), 3)}, {Zone: 1, Data: "spare"}, {Zone: 1, Data: "spare"}}
	for _, room := range []int{1000, 270} {
		for fuse := range 5 {
			table, l := slices.Clone(back), []api.Instance{at(2, 1, 4), at(0, 5, 4), bad(0, 1)}
			d := with(of(whole(1, 3, back[0]), ""), room, fuse-1)
			d.Ops = slices.Clone(ops)[:1]
			after, more, _, _, err := store.Append(d, table[:2], 0, 1, 3, l[:2])
			if err == api.OK {
				spoil(more)
			}
			for i := range after.Ops[:cap(after.Ops)] {
				if len(after.Ops) > 1 {
					after.Ops[:cap(after.Ops)][i].Data = "spoilt"
				}
			}
			if !slices.Equal(table, back) || !slices.Equal(d.Ops[:3], ops) || l[2] != bad(0, 1) {
				t.Errorf("room %d, fuse %d: an argument was changed", room, fuse-1)
			}
		}
	}
}

func TestTableSharesNothing(t *testing.T) {
	x := of(whole(1, 3, at(0, 1, 1)), "")
	one, _, _, _ := store.Table(x, 3)
	two, _, _, _ := store.Table(x, 3)
	spoil(one)
	if two[0] != at(0, 1, 1) {
		t.Errorf("two tables share memory")
	}
}
