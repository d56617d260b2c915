package disk_test

import (
	"fmt"
	"math"
	"slices"
	"strconv"
	"strings"
	"testing"

	"cambist/api"
	"cambist/disk"
)

// most is the greatest capacity of a zone, by the chapter's own figure.
const most = 60000

// numbers are ints of all sorts: the least and the greatest ones, and those about each limit.
func numbers() []int {
	return []int{math.MinInt, math.MinInt + 1, math.MinInt32, -most, -3, -2, -1, 0, 1, 2, 3, 4, 5, 6, 7, 8, 9, 255, 256, most - 1, most, most + 1, 1 << 32, math.MaxInt - 1, math.MaxInt}
}

// mixed are count numbers from 0 to below, the same ones at each call.
func mixed(count, below int) []int {
	l := make([]int, count)
	u := uint64(count)*2654435769 + uint64(below)
	for i := range l {
		u = u*6364136223846793005 + 1442695040888963407
		l[i] = int(u>>33) % below
	}
	return l
}

func bytes(zone int, data string) api.DiskOp {
	return api.DiskOp{Zone: zone, Data: data}
}

func erasure(zone int) api.DiskOp {
	return api.DiskOp{Zone: zone, Erase: true}
}

// of is a disk that is up, with room for 20 bytes, of which the power doesn't fail.
func of(a, b string, ops ...api.DiskOp) api.Disk {
	return api.Disk{Safe: [2]string{a, b}, Ops: ops, Cap: 20, Fuse: -1}
}

// with is d with another capacity and fuse.
func with(d api.Disk, room, fuse int) api.Disk {
	d.Cap, d.Fuse = room, fuse
	return d
}

func down(d api.Disk) api.Disk {
	d.Down = true
	return d
}

// ups are disks of all sorts that are up, of which the power doesn't fail.
func ups() []api.Disk {
	many := []api.DiskOp{}
	for i, n := range mixed(40, 3) {
		many = append(many, bytes(n%2, strings.Repeat(string(rune('a'+i%26)), n)))
	}
	return []api.Disk{
		of("", ""), of("ab", ""), of("", "xyz"), of("ab", "xyz"),
		of("ab", "xyz", bytes(0, "cd")), of("ab", "xyz", bytes(1, "cd")), of("ab", "xyz", erasure(0)), of("ab", "xyz", erasure(1)),
		of("ab", "xyz", bytes(0, "cd"), erasure(0)), of("ab", "xyz", erasure(0), bytes(0, "cd")),
		of("ab", "xyz", bytes(0, "cd"), erasure(1), bytes(1, "uvw"), bytes(0, "e")),
		of("ab", "xyz", bytes(0, "c"), bytes(1, "w"), erasure(0), bytes(1, "v"), bytes(0, "de"), erasure(0), bytes(0, "fgh"), bytes(1, "tu"), erasure(1)),
		of("", "", erasure(0), erasure(1), erasure(0)),
		of("\x00\xff\x00", "\xff\xc3\x28", bytes(0, "\xc3"), bytes(0, "\xa9\x00"), bytes(1, "é\x00é")),
		of(strings.Repeat("p", 19), strings.Repeat("q", 20), bytes(0, "r")),
		with(of(strings.Repeat("ab", most/2), strings.Repeat("cde", most/3), erasure(0), bytes(0, strings.Repeat("f", most-1))), most, -1),
		with(of("abcdef", "g", bytes(1, "hi")), 3, -1), with(of("a", "b"), 0, -1),
		with(of("ab", "xyz", many...), 100, -1),
	}
}

// odds are disks that no call makes: with operations on zones that are none or of no bytes, erasures with bytes, and capacities and fuses that may not be.
func odds() []api.Disk {
	l := []api.Disk{
		{}, of("ab", "xyz", api.DiskOp{Zone: 0, Data: "cd", Erase: true}), of("ab", "xyz", api.DiskOp{}), of("ab", "xyz", bytes(0, ""), bytes(1, "")),
		of("ab", "xyz", bytes(0, "cd"), api.DiskOp{Zone: 0, Data: "efg", Erase: true}, bytes(0, "h"), api.DiskOp{Zone: 1, Data: "w", Erase: true}),
	}
	for _, n := range numbers() {
		if n != 0 && n != 1 {
			l = append(l, of("ab", "xyz", bytes(n, "cd"), bytes(0, "e"), erasure(n), bytes(1, "w"), api.DiskOp{Zone: n, Data: "f", Erase: true}))
		}
		l = append(l, with(of("ab", "xyz", bytes(0, "cd")), n, -1), with(of("ab", "xyz", bytes(0, "cd")), 20, n))
	}
	return l
}

// disks are all of these, with several fuses, up and down.
func disks() []api.Disk {
	l := []api.Disk{}
	for _, d := range append(ups(), odds()...) {
		for _, fuse := range []int{d.Fuse, 0, 1, 2} {
			l = append(l, with(d, d.Cap, fuse), down(with(d, d.Cap, fuse)))
		}
	}
	return l
}

// held is what a zone holds behind the first operations: all that was put there since it was erased last, or since it was safe.
func held(d api.Disk, zone, operations int) string {
	s, first := d.Safe[zone], 0
	for i, op := range d.Ops[:operations] {
		if op.Zone == zone && op.Erase {
			s, first = "", i+1
		}
	}
	for _, op := range d.Ops[first:operations] {
		if op.Zone == zone && !op.Erase {
			s += op.Data
		}
	}
	return s
}

func now(d api.Disk, zone int) string {
	return held(d, zone, len(d.Ops))
}

func isZone(n int) bool {
	return n == 0 || n == 1
}

// burnt is d behind an operation that its fuse lets through, and that changes nothing else.
func burnt(d api.Disk) api.Disk {
	if d.Fuse <= 0 {
		d.Fuse = -1
	} else {
		d.Fuse--
	}
	return d
}

// appended is what Append has to tell.
func appended(d api.Disk, zone int, data string) (api.Disk, api.Errno) {
	if d.Down {
		return d, api.ErrDown
	}
	if !isZone(zone) || len(data) == 0 {
		return d, api.ErrArg
	}
	if len(now(d, zone)+data) > d.Cap {
		return d, api.ErrFull
	}
	if d.Fuse == 0 {
		return down(d), api.ErrDown
	}
	d.Ops = slices.Insert(slices.Clone(d.Ops), len(d.Ops), bytes(zone, data))
	return burnt(d), api.OK
}

// erased is what Erase has to tell.
func erased(d api.Disk, zone int) (api.Disk, api.Errno) {
	if d.Down {
		return d, api.ErrDown
	}
	if !isZone(zone) {
		return d, api.ErrArg
	}
	if d.Fuse == 0 {
		return down(d), api.ErrDown
	}
	d.Ops = slices.Insert(slices.Clone(d.Ops), len(d.Ops), erasure(zone))
	return burnt(d), api.OK
}

// synced is what Sync has to tell.
func synced(d api.Disk) (api.Disk, api.Errno) {
	if d.Down {
		return d, api.ErrDown
	}
	if d.Fuse == 0 {
		return down(d), api.ErrDown
	}
	d.Safe, d.Ops = [2]string{now(d, 0), now(d, 1)}, nil
	return burnt(d), api.OK
}

// crashed is what Crash has to tell.
func crashed(d api.Disk, keep, torn int) api.Disk {
	if keep < 0 {
		keep = 0
	}
	if keep > len(d.Ops) {
		keep = len(d.Ops)
	}
	safe := [2]string{held(d, 0, keep), held(d, 1, keep)}
	if keep < len(d.Ops) && isZone(d.Ops[keep].Zone) && !d.Ops[keep].Erase {
		part := 0
		for part < torn && part < len(d.Ops[keep].Data) {
			part++
		}
		safe[d.Ops[keep].Zone] += d.Ops[keep].Data[:part]
	}
	return api.Disk{Safe: safe, Cap: d.Cap, Fuse: -1, Down: true}
}

// same tells whether a and b are the same disk; lists of no operations are alike.
func same(a, b api.Disk) bool {
	return a.Safe == b.Safe && slices.Equal(a.Ops, b.Ops) && a.Cap == b.Cap && a.Fuse == b.Fuse && a.Down == b.Down
}

// show is d in some characters.
func show(d api.Disk) string {
	s := fmt.Sprintf("%+v", d)
	return s[:min(len(s), 300)]
}

// wantDisk holds what a call tells against what it has to tell; name and from tell the call.
func wantDisk(t *testing.T, name string, from, got, want api.Disk) {
	t.Helper()
	wantDiskErr(t, name, from, got, api.OK, want, api.OK)
}

func wantDiskErr(t *testing.T, name string, from, got api.Disk, err api.Errno, want api.Disk, wantErr api.Errno) {
	t.Helper()
	if err != wantErr || !same(got, want) {
		t.Errorf("%s of %s = %s, %d, want %s, %d", name, show(from), show(got), err, show(want), wantErr)
	}
}

func wantRead(t *testing.T, d api.Disk, zone int, want string, wantErr api.Errno) {
	t.Helper()
	if got, err := disk.Read(d, zone); got != want || err != wantErr {
		t.Errorf("Read(%s, %d) = %.60q, %d, want %.60q, %d", show(d), zone, got, err, want, wantErr)
	}
}

func wantAppend(t *testing.T, d api.Disk, zone int, data string, want api.Disk, wantErr api.Errno) {
	t.Helper()
	got, err := disk.Append(d, zone, data)
	if err != wantErr || !same(got, want) {
		t.Errorf("Append(%s, %d, %.60q) = %s, %d, want %s, %d", show(d), zone, data, show(got), err, show(want), wantErr)
	}
}

func wantErase(t *testing.T, d api.Disk, zone int, want api.Disk, wantErr api.Errno) {
	t.Helper()
	got, err := disk.Erase(d, zone)
	if err != wantErr || !same(got, want) {
		t.Errorf("Erase(%s, %d) = %s, %d, want %s, %d", show(d), zone, show(got), err, show(want), wantErr)
	}
}

func wantSync(t *testing.T, d api.Disk, want api.Disk, wantErr api.Errno) {
	t.Helper()
	got, err := disk.Sync(d)
	wantDiskErr(t, "Sync", d, got, err, want, wantErr)
}

func wantCrash(t *testing.T, d api.Disk, keep, torn int, want api.Disk) {
	t.Helper()
	if got := disk.Crash(d, keep, torn); !same(got, want) {
		t.Errorf("Crash(%s, %d, %d) = %s, want %s", show(d), keep, torn, show(got), show(want))
	}
}

// must hand on a disk that no error came with.
func must(t *testing.T) func(api.Disk, api.Errno) api.Disk {
	return func(d api.Disk, err api.Errno) api.Disk {
		t.Helper()
		if err != api.OK {
			t.Fatalf("error %d with %s", err, show(d))
		}
		return d
	}
}

// P14.1: the limit is the chapter's.
func TestLimit(t *testing.T) {
	if api.MaxDisk != most {
		t.Fatalf("MaxDisk is %d", api.MaxDisk)
	}
}

// P14.1: zones that are empty, the room as far as it may be, and a fuse that lets all through.
func TestNew(t *testing.T) {
	for _, n := range numbers() {
		wantDisk(t, "New("+strconv.Itoa(n)+")", api.Disk{}, disk.New(n), api.Disk{Cap: max(0, min(n, 60000)), Fuse: -1})
	}
	for _, zone := range []int{0, 1} {
		wantRead(t, disk.New(6), zone, "", api.OK)
	}
	wantDisk(t, "New(60000)", api.Disk{}, disk.New(60000), api.Disk{Cap: 60000, Fuse: -1})
	wantDisk(t, "New(60001)", api.Disk{}, disk.New(60001), api.Disk{Cap: 60000, Fuse: -1})
	wantDisk(t, "New(-1)", api.Disk{}, disk.New(-1), api.Disk{Cap: 0, Fuse: -1})
}

// P14.2: what is safe and what was done since, in order.
func TestRead(t *testing.T) {
	d := of("ab", "xyz", bytes(0, "cd"), bytes(1, "w"), erasure(0), bytes(0, "e"), bytes(1, "v"), bytes(0, "fg"))
	wantRead(t, of("ab", "xyz"), 0, "ab", api.OK)
	wantRead(t, of("ab", "xyz"), 1, "xyz", api.OK)
	wantRead(t, d, 0, "efg", api.OK)
	wantRead(t, d, 1, "xyzwv", api.OK)
	wantRead(t, of("ab", "xyz", bytes(1, "w"), erasure(1)), 1, "", api.OK)
	wantRead(t, of("ab", "xyz", bytes(1, "w"), erasure(1)), 0, "ab", api.OK)
	for _, d := range ups() {
		for zone := range 2 {
			wantRead(t, d, zone, now(d, zone), api.OK)
			// A fuse doesn't matter, nor does how much may be held.
			for _, n := range numbers() {
				wantRead(t, with(d, n, n), zone, now(d, zone), api.OK)
			}
		}
	}
}

// P14.2: ErrDown, and ahead of ErrArg; nothing is told with an error.
func TestReadWrong(t *testing.T) {
	for _, d := range append(ups(), odds()...) {
		for _, n := range numbers() {
			wantRead(t, down(d), n, "", api.ErrDown)
			if !isZone(n) {
				wantRead(t, d, n, "", api.ErrArg)
			}
		}
	}
}

// P14.2: what was done to a zone that is none touches neither, and an erasure puts nothing there.
func TestReadOdd(t *testing.T) {
	wantRead(t, of("ab", "xyz", bytes(2, "c"), erasure(-1), bytes(0, "d"), erasure(2)), 0, "abd", api.OK)
	wantRead(t, of("ab", "xyz", bytes(2, "c"), erasure(-1), bytes(0, "d"), erasure(2)), 1, "xyz", api.OK)
	wantRead(t, of("ab", "xyz", api.DiskOp{Zone: 0, Data: "cd", Erase: true}), 0, "", api.OK)
	for _, d := range odds() {
		for zone := range 2 {
			wantRead(t, d, zone, now(d, zone), api.OK)
		}
	}
}

// P14.3: the chapter's example.
func TestAppendExample(t *testing.T) {
	d := must(t)(disk.Append(disk.New(6), 0, "ab"))
	d = must(t)(disk.Append(d, 0, "cd"))
	want := with(of("", "", bytes(0, "ab"), bytes(0, "cd")), 6, -1)
	wantDisk(t, "two calls of Append", disk.New(6), d, want)
	wantAppend(t, d, 0, "efg", want, api.ErrFull)
	wantAppend(t, d, 2, "x", want, api.ErrArg)
	wantAppend(t, d, 0, "ef", with(of("", "", bytes(0, "ab"), bytes(0, "cd"), bytes(0, "ef")), 6, -1), api.OK)
	wantAppend(t, d, 1, "efghij", with(of("", "", bytes(0, "ab"), bytes(0, "cd"), bytes(1, "efghij")), 6, -1), api.OK)
	wantAppend(t, d, 1, "efghijk", want, api.ErrFull)
}

// P14.3: an operation is added, whatever the bytes are.
func TestAppend(t *testing.T) {
	datas := []string{"", "c", "cd", "\x00", "\xff\xfe", "é", strings.Repeat("k", 17), strings.Repeat("k", 18), strings.Repeat("k", 19), strings.Repeat("k", 20), strings.Repeat("k", 21), strings.Repeat("k", most), strings.Repeat("k", most+1)}
	for _, d := range disks() {
		for zone := -1; zone <= 2; zone++ {
			for _, data := range datas {
				want, wantErr := appended(d, zone, data)
				wantAppend(t, d, zone, data, want, wantErr)
			}
		}
		for _, n := range numbers() {
			want, wantErr := appended(d, n, "e")
			wantAppend(t, d, n, "e", want, wantErr)
		}
	}
}

// P14.3: a zone may hold as many bytes as there is room for, and no more; what it holds now counts, and not what the other one does.
func TestAppendFull(t *testing.T) {
	for _, d := range []api.Disk{
		of("abcd", "0123456789"), of("ab", "0123456789", bytes(0, "c"), bytes(0, "d")), of("0123456789", "", erasure(0), bytes(0, "abcd")),
		of("abc", "", bytes(1, "0123456789"), bytes(0, "d")),
	} {
		for room := range 12 {
			d := with(d, room, -1)
			for length := 1; length <= 9; length++ {
				want, wantErr := d, api.ErrFull
				if 4+length <= room {
					want.Ops, wantErr = append(slices.Clone(d.Ops), bytes(0, "012345678"[:length])), api.OK
				}
				wantAppend(t, d, 0, "012345678"[:length], want, wantErr)
			}
		}
	}
	// The capacity is what the disk says, even if New would not make such a one.
	for _, n := range numbers() {
		want, wantErr := with(of("ab", ""), n, -1), api.ErrFull
		if n >= 3 {
			want.Ops, wantErr = []api.DiskOp{bytes(0, "c")}, api.OK
		}
		wantAppend(t, with(of("ab", ""), n, -1), 0, "c", want, wantErr)
	}
	d := disk.New(most)
	d = must(t)(disk.Append(d, 1, strings.Repeat("k", most-1)))
	wantAppend(t, d, 1, "lm", d, api.ErrFull)
	d = must(t)(disk.Append(d, 1, "l"))
	wantAppend(t, d, 1, "m", d, api.ErrFull)
	d = must(t)(disk.Append(must(t)(disk.Erase(d, 1)), 1, "m"))
	wantRead(t, d, 1, "m", api.OK)
}

// P14.3: of several errors the first one in the chapter's order, and the fuse is asked last: it goes out only if nothing else is wrong.
func TestAppendOrder(t *testing.T) {
	d := with(of("abcd", "xy", bytes(0, "e")), 5, 0)
	wantAppend(t, down(d), 2, "", down(d), api.ErrDown)
	wantAppend(t, down(d), 0, "", down(d), api.ErrDown)
	wantAppend(t, down(d), 0, "f", down(d), api.ErrDown)
	wantAppend(t, down(with(d, 9, 3)), 1, "f", down(with(d, 9, 3)), api.ErrDown)
	wantAppend(t, d, 2, "", d, api.ErrArg)
	wantAppend(t, d, 2, "0123456789", d, api.ErrArg)
	wantAppend(t, d, -1, "f", d, api.ErrArg)
	wantAppend(t, d, 0, "", d, api.ErrArg)
	wantAppend(t, with(d, 2, 0), 0, "", with(d, 2, 0), api.ErrArg)
	wantAppend(t, d, 0, "f", d, api.ErrFull)
	wantAppend(t, with(d, 5, 7), 0, "f", with(d, 5, 7), api.ErrFull)
	wantAppend(t, d, 1, "f", down(d), api.ErrDown)
	wantAppend(t, with(d, 6, 0), 0, "f", down(with(d, 6, 0)), api.ErrDown)
}

// fuses are fuses, and what is left of each behind an operation that it lets through.
func fuses() [][2]int {
	return [][2]int{{1, 0}, {2, 1}, {3, 2}, {100, 99}, {math.MaxInt, math.MaxInt - 1}, {-1, -1}, {-2, -1}, {math.MinInt, -1}}
}

// P14.3, P14.4, P14.5: the fuse loses 1 with each operation, but isn't below -1.
func TestFuse(t *testing.T) {
	for _, f := range fuses() {
		d := with(of("ab", "xyz", bytes(1, "w")), 20, f[0])
		wantAppend(t, d, 0, "c", with(of("ab", "xyz", bytes(1, "w"), bytes(0, "c")), 20, f[1]), api.OK)
		wantErase(t, d, 0, with(of("ab", "xyz", bytes(1, "w"), erasure(0)), 20, f[1]), api.OK)
		wantSync(t, d, with(of("ab", "xyzw"), 20, f[1]), api.OK)
	}
	d := with(of("ab", "xyz", bytes(1, "w")), 20, 0)
	wantAppend(t, d, 0, "c", down(d), api.ErrDown)
	wantErase(t, d, 0, down(d), api.ErrDown)
	wantSync(t, d, down(d), api.ErrDown)
}

// P14.3, P14.4, P14.5, P14.8: a disk that is armed lets as many operations through, of whatever sort they are, and then goes down.
func TestFuseRuns(t *testing.T) {
	for n := range 9 {
		d := disk.Arm(disk.New(20), n)
		for i := range n {
			switch i % 3 {
			case 0:
				d = must(t)(disk.Append(d, 0, "a"))
			case 1:
				d = must(t)(disk.Sync(d))
			default:
				d = must(t)(disk.Erase(d, 1))
			}
		}
		if d.Down || d.Fuse != 0 {
			t.Fatalf("behind %d operations: %s", n, show(d))
		}
		want := strings.Repeat("a", (n+2)/3)
		wantRead(t, d, 0, want, api.OK)
		off, err := disk.Append(d, 0, "b")
		wantDiskErr(t, "Append", d, off, err, down(d), api.ErrDown)
		wantRead(t, off, 0, "", api.ErrDown)
		wantSync(t, off, off, api.ErrDown)
		wantRead(t, disk.Start(disk.Crash(off, 99, 0)), 0, want, api.OK)
	}
}

// P14.4: an erasure is added to the operations, also of a zone that is empty.
func TestErase(t *testing.T) {
	wantErase(t, of("ab", "xyz", bytes(0, "cd")), 0, of("ab", "xyz", bytes(0, "cd"), erasure(0)), api.OK)
	wantErase(t, of("ab", "xyz", bytes(0, "cd")), 1, of("ab", "xyz", bytes(0, "cd"), erasure(1)), api.OK)
	wantErase(t, of("", ""), 1, of("", "", erasure(1)), api.OK)
	wantErase(t, with(of("ab", ""), 0, -1), 0, with(of("ab", "", erasure(0)), 0, -1), api.OK)
	for _, d := range disks() {
		for _, n := range numbers() {
			want, wantErr := erased(d, n)
			wantErase(t, d, n, want, wantErr)
		}
	}
	d := must(t)(disk.Erase(of("ab", "xyz", bytes(0, "cd")), 0))
	wantRead(t, d, 0, "", api.OK)
	wantRead(t, d, 1, "xyz", api.OK)
}

// P14.4: ErrDown, then ErrArg, and the fuse last.
func TestEraseOrder(t *testing.T) {
	d := with(of("ab", "xyz"), 20, 0)
	wantErase(t, d, 0, down(d), api.ErrDown)
	for _, n := range numbers() {
		wantErase(t, down(d), n, down(d), api.ErrDown)
		wantErase(t, down(of("ab", "xyz")), n, down(of("ab", "xyz")), api.ErrDown)
		if !isZone(n) {
			wantErase(t, d, n, d, api.ErrArg)
			wantErase(t, with(d, 20, 5), n, with(d, 20, 5), api.ErrArg)
		}
	}
}

// P14.5: what both zones hold is safe, and nothing is left to be synced.
func TestSync(t *testing.T) {
	d := of("ab", "xyz", bytes(0, "cd"), erasure(1), bytes(1, "uvw"), bytes(0, "e"))
	wantSync(t, d, of("abcde", "uvw"), api.OK)
	wantSync(t, of("ab", "xyz"), of("ab", "xyz"), api.OK)
	wantSync(t, of("ab", "xyz", erasure(0), erasure(1)), of("", ""), api.OK)
	wantSync(t, down(d), down(d), api.ErrDown)
	wantSync(t, with(d, 20, 0), down(with(d, 20, 0)), api.ErrDown)
	wantSync(t, down(with(d, 20, 4)), down(with(d, 20, 4)), api.ErrDown)
	for _, d := range disks() {
		want, wantErr := synced(d)
		wantSync(t, d, want, wantErr)
	}
}

// P14.6: the chapter's examples.
func TestCrashExample(t *testing.T) {
	d := must(t)(disk.Append(disk.New(6), 0, "ab"))
	d = must(t)(disk.Append(must(t)(disk.Sync(d)), 0, "cd"))
	for torn, want := range []string{"ab", "abc", "abcd", "abcd"} {
		wantCrash(t, d, 0, torn, down(with(of(want, ""), 6, -1)))
	}
	wantCrash(t, d, 1, 0, down(with(of("abcd", ""), 6, -1)))
	wantCrash(t, d, 1, 1, down(with(of("abcd", ""), 6, -1)))
	wantRead(t, disk.Crash(d, 1, 0), 0, "", api.ErrDown)
	wantRead(t, disk.Start(disk.Crash(d, 0, 1)), 0, "abc", api.OK)
}

// P14.6: the first operations, and some bytes of the next one; nothing of an erasure is half done.
func TestCrash(t *testing.T) {
	d := of("ab", "xyz", bytes(0, "cde"), bytes(1, "w"), erasure(0), bytes(0, "fg"), erasure(1))
	for i, want := range [][2]string{{"ab", "xyz"}, {"abcde", "xyz"}, {"abcde", "xyzw"}, {"", "xyzw"}, {"fg", "xyzw"}, {"fg", ""}, {"fg", ""}} {
		wantCrash(t, d, i, 0, down(of(want[0], want[1])))
		wantCrash(t, d, i, -1, down(of(want[0], want[1])))
	}
	wantCrash(t, d, 0, 2, down(of("abcd", "xyz")))
	wantCrash(t, d, 1, 7, down(of("abcde", "xyzw")))
	wantCrash(t, d, 2, 7, down(of("abcde", "xyzw")))
	wantCrash(t, d, 3, 1, down(of("f", "xyzw")))
	wantCrash(t, d, 4, 9, down(of("fg", "xyzw")))
	wantCrash(t, d, -7, 1, down(of("abc", "xyz")))
	wantCrash(t, d, math.MinInt, math.MaxInt, down(of("abcde", "xyz")))
	wantCrash(t, d, math.MaxInt, math.MaxInt, down(of("fg", "")))
	for _, d := range disks() {
		for _, keep := range numbers() {
			for _, torn := range numbers() {
				wantCrash(t, d, keep, torn, crashed(d, keep, torn))
			}
		}
		for keep := range d.Ops {
			for torn := range min(len(d.Ops[keep].Data), 30) + 2 {
				wantCrash(t, d, keep, torn, crashed(d, keep, torn))
			}
		}
	}
}

// P14.6: the power fails of a disk that is down, too, and again.
func TestCrashDown(t *testing.T) {
	d := down(with(of("ab", "xyz", bytes(0, "cd"), bytes(1, "w")), 4, 0))
	wantCrash(t, d, 1, 0, down(with(of("abcd", "xyz"), 4, -1)))
	for _, n := range numbers() {
		wantCrash(t, disk.Crash(d, 0, 1), n, n, down(with(of("abc", "xyz"), 4, -1)))
	}
}

// P14.7: the power is on, and nothing else changes.
func TestStart(t *testing.T) {
	for _, d := range disks() {
		want := d
		want.Down = false
		wantDisk(t, "Start", d, disk.Start(d), want)
	}
}

// P14.8: the fuse as it is told, from -1 on.
func TestArm(t *testing.T) {
	for _, d := range disks() {
		for _, n := range numbers() {
			want := d
			want.Fuse = n
			if n < -1 {
				want.Fuse = -1
			}
			wantDisk(t, "Arm by "+strconv.Itoa(n), d, disk.Arm(d, n), want)
		}
	}
}

// P14.8: the capacity as it is told, as far as it may be; a zone that holds more keeps it.
func TestRoom(t *testing.T) {
	for _, d := range disks() {
		for _, n := range numbers() {
			want := d
			want.Cap = n
			if n < 0 {
				want.Cap = 0
			}
			if n > 60000 {
				want.Cap = 60000
			}
			wantDisk(t, "Room by "+strconv.Itoa(n), d, disk.Room(d, n), want)
		}
	}
	d := disk.Room(of("abcd", "xy", bytes(0, "e")), 4)
	wantRead(t, d, 0, "abcde", api.OK)
	wantAppend(t, d, 0, "f", d, api.ErrFull)
	wantAppend(t, d, 1, "uv", with(of("abcd", "xy", bytes(0, "e"), bytes(1, "uv")), 4, -1), api.OK)
	wantErase(t, d, 0, with(of("abcd", "xy", bytes(0, "e"), erasure(0)), 4, -1), api.OK)
	wantSync(t, d, with(of("abcde", "xy"), 4, -1), api.OK)
	wantCrash(t, d, 1, 0, down(with(of("abcde", "xy"), 4, -1)))
	wantAppend(t, disk.Room(d, 6), 0, "f", with(of("abcd", "xy", bytes(0, "e"), bytes(0, "f")), 6, -1), api.OK)
}

// P14.9: what a zone holds behind a crash is what it held behind some operation, and some bytes of the next one; so that nothing that was synced goes, but by an erasure.
func TestCrashKeeps(t *testing.T) {
	for _, d := range ups() {
		for keep := range len(d.Ops) + 1 {
			for torn := range 4 {
				x := disk.Start(disk.Crash(d, keep, torn))
				wantRead(t, x, 0, x.Safe[0], api.OK)
				for zone := range 2 {
					rest, behind := strings.CutPrefix(x.Safe[zone], held(d, zone, keep))
					if !behind || rest != "" && (d.Ops[keep].Zone != zone || rest != d.Ops[keep].Data[:min(torn, len(d.Ops[keep].Data))]) {
						t.Errorf("Crash(%s, %d, %d): zone %d holds %.60q", show(d), keep, torn, zone, x.Safe[zone])
					}
				}
			}
		}
		s := must(t)(disk.Sync(d))
		for _, n := range numbers() {
			wantCrash(t, s, n, n, down(with(of(now(d, 0), now(d, 1)), d.Cap, -1)))
		}
		s = must(t)(disk.Append(disk.Room(must(t)(disk.Erase(s, 0)), most), 0, "z"))
		for keep, want := range []string{now(d, 0), "", "z"} {
			wantRead(t, disk.Start(disk.Crash(s, keep, 0)), 0, want, api.OK)
			wantRead(t, disk.Start(disk.Crash(s, keep, 0)), 1, now(d, 1), api.OK)
		}
	}
}

// P14.10: with an error nothing has changed, but that the disk may be down.
func TestErrorsChangeNothing(t *testing.T) {
	count := 0
	hold := func(what string, d, got api.Disk, err api.Errno) {
		if err == api.OK {
			return
		}
		count++
		if got.Down != (d.Down || err == api.ErrDown) {
			t.Errorf("%s of %s: error %d, and Down is %t", what, show(d), err, got.Down)
		}
		got.Down = d.Down
		wantDisk(t, what, d, got, d)
	}
	for _, d := range disks() {
		for _, n := range numbers() {
			for _, data := range []string{"", "a", strings.Repeat("a", 17)} {
				got, err := disk.Append(d, n, data)
				hold("Append", d, got, err)
			}
			got, err := disk.Erase(d, n)
			hold("Erase", d, got, err)
		}
		got, err := disk.Sync(d)
		hold("Sync", d, got, err)
	}
	if count < 1000 {
		t.Errorf("%d errors alone", count)
	}
}

// step does one operation to d, and to what it has to be, by two numbers.
func step(t *testing.T, d api.Disk, kind, n int) api.Disk {
	t.Helper()
	want, wantErr := d, api.OK
	switch kind {
	case 0, 1, 2, 3, 4, 5, 6, 7:
		data := "abcdefghijklmnopqrstuvwxyz"[n%17 : n%17+n%9]
		zone := n % 31 % 2
		if n%41 == 0 {
			zone = n%5 - 2
		}
		want, wantErr = appended(d, zone, data)
		wantAppend(t, d, zone, data, want, wantErr)
	case 8, 9:
		want, wantErr = erased(d, n%29%4-1)
		wantErase(t, d, n%29%4-1, want, wantErr)
	case 10, 11, 12:
		want, wantErr = synced(d)
		wantSync(t, d, want, wantErr)
	case 13:
		want = crashed(d, n%7, n%11-1)
		wantCrash(t, d, n%7, n%11-1, want)
	case 14, 15, 16, 17:
		want = disk.Start(d)
	case 18:
		want = disk.Arm(d, n%23-1)
	default:
		want = disk.Room(d, 10+n%50)
	}
	return want
}

// P14.3 to P14.8, P14.11: many operations in turn, each as it has to be; no zone grows beyond its capacity, and none touches the other one.
func TestManySteps(t *testing.T) {
	d := disk.New(30)
	downs, fulls := 0, 0
	kinds, ns := mixed(30000, 20), mixed(30000, 9973)
	for i, kind := range kinds {
		was := d
		d = step(t, d, kind, ns[i])
		if t.Failed() {
			t.Fatalf("at step %d", i)
		}
		changed := 0
		for zone := range 2 {
			before, behind := now(was, zone), now(d, zone)
			if len(behind) > len(before) && kind != 13 && len(behind) > d.Cap {
				t.Fatalf("step %d: zone %d grew to %d bytes, with room for %d", i, zone, len(behind), d.Cap)
			}
			if before != behind {
				changed++
			}
		}
		if changed > 1 && kind != 13 {
			t.Fatalf("step %d changed both zones", i)
		}
		if d.Down {
			downs++
		}
		if !d.Down && len(now(d, 0)) == d.Cap {
			fulls++
		}
	}
	if downs < 1000 || downs > 20000 || fulls < 10 {
		t.Errorf("down behind %d steps, full behind %d", downs, fulls)
	}
}

// P14.11: with a capacity that stays, no zone is beyond it, after any crash either.
func TestNeverBeyond(t *testing.T) {
	for room := range 12 {
		d := disk.New(room)
		for i, n := range mixed(2000, 997) {
			switch {
			case n%13 == 0:
				d, _ = disk.Erase(d, n%2)
			case n%11 == 0:
				d, _ = disk.Sync(d)
			case n%17 == 0:
				d = disk.Start(disk.Crash(d, n%5, n%3))
			default:
				d, _ = disk.Append(d, n%2, "abcdefg"[:1+n%7])
			}
			for zone := range 2 {
				got, err := disk.Read(d, zone)
				if err != api.OK || len(got) > room {
					t.Fatalf("room %d, step %d: Read(%s, %d) = %.60q, %d", room, i, show(d), zone, got, err)
				}
			}
		}
	}
}

// P14.11: an operation on one zone leaves the other one's bytes as they are, now, when it is synced, and after each crash.
func TestZonesApart(t *testing.T) {
	for _, d := range ups() {
		for zone := range 2 {
			other := now(d, 1-zone)
			for _, data := range []string{"", "c"} {
				x, err := disk.Append(d, zone, data)
				if data == "" {
					x, err = disk.Erase(d, zone)
				}
				if err != api.OK {
					continue
				}
				wantRead(t, x, 1-zone, other, api.OK)
				wantRead(t, must(t)(disk.Sync(x)), 1-zone, other, api.OK)
				for torn := range 2 {
					wantRead(t, disk.Start(disk.Crash(x, len(d.Ops), torn)), 1-zone, other, api.OK)
				}
			}
		}
	}
}

// spare is d with operations behind which there is room in their list, filled with what may not change.
func spare(d api.Disk) (api.Disk, []api.DiskOp) {
	all := append(slices.Clone(d.Ops), bytes(1, "spare"), bytes(0, "room"), erasure(1))
	d.Ops = all[:len(d.Ops)]
	return d, all
}

// R3: what is handed in stays as it is, the room behind a list too, and an operation that is added has a new list.
func TestMemory(t *testing.T) {
	for _, d := range disks() {
		d, all := spare(d)
		was := slices.Clone(all)
		a, appendErr := disk.Append(d, 0, "a")
		b, appendAgain := disk.Append(d, 0, "b")
		e, eraseErr := disk.Erase(d, 1)
		disk.Sync(d)
		disk.Read(d, 0)
		for keep := range len(d.Ops) + 1 {
			disk.Crash(d, keep, 1)
		}
		disk.Start(d)
		disk.Arm(d, 3)
		disk.Room(d, 3)
		if !slices.Equal(all, was) {
			t.Fatalf("%v became %v", was, all)
		}
		for i, x := range []api.Disk{a, b, e} {
			if []api.Errno{appendErr, appendAgain, eraseErr}[i] != api.OK {
				continue
			}
			kept := slices.Clone(x.Ops)
			for i := range all {
				all[i] = bytes(1, "other")
			}
			if !slices.Equal(x.Ops, kept) {
				t.Errorf("%v changed with what was handed in", kept)
			}
			copy(all, was)
			x.Ops[0] = bytes(1, "mine")
			if !slices.Equal(all, was) {
				t.Errorf("what was handed in changed with the answer")
			}
		}
		if appendErr == api.OK && appendAgain == api.OK && (a.Ops[len(d.Ops)].Data == b.Ops[len(d.Ops)].Data) && len(d.Ops) > 0 {
			t.Errorf("two answers share a list: %v, %v", a.Ops, b.Ops)
		}
	}
}

// R3: a crash and a sync, which tell no operations, have no list that is the one that was handed in.
func TestMemoryEmpty(t *testing.T) {
	d := of("ab", "xyz", bytes(0, "c"))
	s := must(t)(disk.Sync(d))
	for _, x := range []api.Disk{s, disk.Crash(d, 0, 1), disk.Crash(d, 1, 0), disk.New(4)} {
		if cap(x.Ops) != 0 {
			t.Errorf("a list with room for %d operations", cap(x.Ops))
		}
	}
}

// R4: the same is told each time.
func TestAgain(t *testing.T) {
	for _, d := range disks() {
		a, e := disk.Append(d, 0, "a")
		b, f := disk.Append(d, 0, "a")
		wantDiskErr(t, "Append again", d, b, f, a, e)
		wantDisk(t, "Crash again", d, disk.Crash(d, 1, 1), disk.Crash(d, 1, 1))
	}
}
