package wal_test

import (
	"hash/crc32"
	"math"
	"slices"
	"strings"
	"testing"

	"cambist/api"
	"cambist/crc"
	"cambist/wal"
)

// The limits by the chapter's own figures.
const (
	mostLoad = 2000
	mostDisk = 60000
)

// frameOf is a frame by the definition of chapter 2, of a load of whatever length two bytes hold.
func frameOf(load string) string {
	body := string([]byte{byte(len(load) >> 8), byte(len(load))}) + load
	n := crc32.ChecksumIEEE([]byte(body))
	return body + string([]byte{byte(n), byte(n >> 8), byte(n >> 16), byte(n >> 24)})
}

// framesOf are the frames of all loads, one behind the other.
func framesOf(loads ...string) string {
	s := ""
	for _, load := range loads {
		s += frameOf(load)
	}
	return s
}

// mixed is a text of bytes of all sorts, the same one for the same numbers.
func mixed(length, seed int) string {
	b := make([]byte, length)
	u := uint32(seed)*2654435761 + 1
	for i := range b {
		u = u*1664525 + 1013904223
		b[i] = byte(u >> 24)
	}
	return string(b)
}

// filled is a list of count loads of length bytes each.
func filled(count, length int) []string {
	l := []string{}
	for i := range count {
		l = append(l, mixed(length, i))
	}
	return l
}

// lists are loads of all sorts that may be laid.
func lists() [][]string {
	l := [][]string{
		nil, {}, {""}, {"a"}, {"a", "bc"}, {"bc", "a"}, {"", "", ""}, {"", "a", ""}, {"a", "a", "a"},
		{"\x00"}, {"\xff\xff"}, {"\x00\x00\xff\x12\xd9\x41"}, {"é", "\xc3", "\x00\x00"},
		{frameOf("inner"), framesOf("b", "", "c"), frameOf(frameOf("d"))},
		{mixed(mostLoad, 1)}, {mixed(255, 1), mixed(256, 2), mixed(257, 3)},
		{strings.Repeat("\x00", 300), strings.Repeat("\xff", 300), ""},
		{"x", mixed(mostLoad, 2), "y", mixed(mostLoad-1, 3), ""},
		filled(29, mostLoad),
	}
	for i := range 12 {
		many := []string{}
		for _, b := range []byte(mixed(i, i+50)) {
			many = append(many, mixed(int(b)%40, int(b)))
		}
		l = append(l, many)
	}
	return l
}

// tails are texts at whose beginning no frame can be opened, one for each cause of it, and some beside.
func tails() []string {
	ab := frameOf("ab")
	return []string{
		"", "\x00", "\x07", "\xff", "\x00\x00", "\x00\x00\xff\x12\xd9", ab[:1], ab[:2], ab[:3], ab[:4], ab[:7],
		"\x07\xd1", "\xff\xff", frameOf(mixed(mostLoad+1, 4)), frameOf(mixed(65535, 4)),
		"\x07\xd0" + strings.Repeat("?", mostLoad+3), "\x07\xd0" + strings.Repeat("?", mostLoad+4),
		strings.Repeat("\x00", 6), strings.Repeat("\x00", 100), "\x00\x02ac" + ab[4:], "\x00\x02ab????", ab[:7] + "?",
		"x", "x" + ab, "\x00" + ab, ab[1:], frameOf(mixed(mostLoad, 7))[:mostLoad+5],
	}
}

// lay hands on the frames of loads that may be laid.
func lay(t *testing.T, loads []string) string {
	t.Helper()
	s, err := wal.Lay(loads)
	if err != api.OK {
		t.Fatalf("Lay of %d loads: error %d", len(loads), err)
	}
	return s
}

func wantScan(t *testing.T, s string, want []string, wantAt int) {
	t.Helper()
	got, at := wal.Scan(s)
	if !slices.Equal(got, want) || at != wantAt {
		t.Errorf("Scan of %d bytes %.40q = %d loads %.40q, %d, want %d loads %.40q, %d", len(s), s, len(got), got, at, len(want), want, wantAt)
	}
}

func wantLay(t *testing.T, l []string, want string, wantErr api.Errno) {
	t.Helper()
	got, err := wal.Lay(l)
	if got != want || err != wantErr {
		t.Errorf("Lay of %d loads %.40q = %d bytes %.40q, %d, want %d bytes %.40q, %d", len(l), l, len(got), got, err, len(want), want, wantErr)
	}
}

func wantFits(t *testing.T, l []string, room int, want bool) {
	t.Helper()
	if got := wal.Fits(l, room); got != want {
		t.Errorf("Fits(%d loads %.40q, %d) = %t", len(l), l, room, got)
	}
}

func wantLast(t *testing.T, s, want string, wantFound bool) {
	t.Helper()
	got, found := wal.Last(s)
	if got != want || found != wantFound {
		t.Errorf("Last of %d bytes %.40q = %.40q, %t, want %.40q, %t", len(s), s, got, found, want, wantFound)
	}
}

// P15.1: the chapter's examples.
func TestScanExample(t *testing.T) {
	s := framesOf("a", "bc")
	wantScan(t, s, []string{"a", "bc"}, 15)
	wantScan(t, s[:14], []string{"a"}, 7)
}

// P15.1: all loads to the end of s, empty ones too, and each as it is.
func TestScan(t *testing.T) {
	wantScan(t, "", nil, 0)
	wantScan(t, frameOf(""), []string{""}, 6)
	wantScan(t, framesOf("", "", ""), []string{"", "", ""}, 18)
	wantScan(t, frameOf(framesOf("a", "b")), []string{framesOf("a", "b")}, 20)
	for _, l := range lists() {
		s := framesOf(l...)
		wantScan(t, s, l, len(s))
	}
}

// P15.1: a text is scanned however long it is, and however many frames it has.
func TestScanMuch(t *testing.T) {
	l := filled(100, mostLoad)
	s := strings.Join(framesEach(l), "")
	wantScan(t, s, l, 100*(mostLoad+6))
	wantScan(t, s[:len(s)-1], l[:99], 99*(mostLoad+6))
	wantScan(t, strings.Repeat(frameOf(""), 50000), make([]string, 50000), 300000)
}

func framesEach(l []string) []string {
	frames := []string{}
	for _, load := range l {
		frames = append(frames, frameOf(load))
	}
	return frames
}

// P15.1: the first offset at which no frame can be opened ends it, whatever stands behind it, further frames too.
func TestScanDamaged(t *testing.T) {
	for _, tail := range tails() {
		wantScan(t, tail, nil, 0)
		for _, l := range lists() {
			s := framesOf(l...)
			wantScan(t, s+tail, l, len(s))
		}
	}
	for _, bad := range []string{"\x00\x02ac" + frameOf("ab")[4:], "\xff\xff", "\x07\xd1", strings.Repeat("\x00", 6), frameOf(mixed(mostLoad+1, 1)), "\x00\x01a????"} {
		wantScan(t, bad+framesOf("c", "d"), nil, 0)
		wantScan(t, framesOf("a", "b")+bad+framesOf("c", "d"), []string{"a", "b"}, 14)
	}
}

// P15.1: a frame with bits inverted behind its length ends it, and all before it is told.
func TestScanInverted(t *testing.T) {
	l := []string{"one", "", "three", "\x00\x00\xff\x12\xd9\x41"}
	s, start := framesOf(l...), 0
	for i, load := range l {
		end := start + len(load) + 6
		for at := start + 2; at < end; at++ {
			for bits := 1; bits < 256; bits++ {
				b := []byte(s)
				b[at] ^= byte(bits)
				wantScan(t, string(b), l[:i], start)
			}
		}
		start = end
	}
}

// P15.1: what Scan tells is what Open tells one after the other, of any bytes.
func TestScanByOpen(t *testing.T) {
	for i := range 3000 {
		s := framesOf(filled(i%4, i%7)...) + strings.ReplaceAll(mixed(i%60, i), "\xff", "\x00") + framesOf(filled(i%3, 5)...)
		want, at := []string{}, 0
		for {
			load, next, err := crc.Open(s, at)
			if err != api.OK {
				break
			}
			want, at = append(want, load), next
		}
		wantScan(t, s, want, at)
		if len(want) < i%4 {
			t.Fatalf("%d loads of %d frames", len(want), i%4)
		}
	}
}

// P15.2: the frames one behind the other, and the chapter's example.
func TestLay(t *testing.T) {
	wantLay(t, []string{"a", "bc"}, framesOf("a", "bc"), api.OK)
	if s := lay(t, []string{"a", "bc"}); len(s) != 15 {
		t.Errorf("%d bytes of a and bc", len(s))
	}
	wantLay(t, nil, "", api.OK)
	wantLay(t, []string{}, "", api.OK)
	wantLay(t, []string{""}, "\x00\x00\xff\x12\xd9\x41", api.OK)
	for _, l := range lists() {
		wantLay(t, l, framesOf(l...), api.OK)
	}
}

// P15.2: no load has more than 2000 bytes, wherever it stands.
func TestLayLong(t *testing.T) {
	wantLay(t, []string{strings.Repeat("\x00", mostLoad)}, frameOf(strings.Repeat("\x00", mostLoad)), api.OK)
	for _, length := range []int{mostLoad + 1, mostLoad + 2, 4000, mostDisk, mostDisk + 1, 65536, 65536 + 1} {
		long := mixed(length, 1)
		wantLay(t, []string{long}, "", api.ErrLong)
		wantLay(t, []string{"a", long}, "", api.ErrLong)
		wantLay(t, []string{long, "a"}, "", api.ErrLong)
		wantLay(t, []string{"a", "", long, "b"}, "", api.ErrLong)
	}
}

// P15.2: the frames have 60000 bytes at most, those around the loads counted.
func TestLayFull(t *testing.T) {
	// 29 frames of 2006 bytes have 58174, so that 1826 are left.
	most := filled(29, mostLoad)
	for _, rest := range [][]string{{mixed(1820, 1)}, {mixed(1819, 1)}, {"", mixed(1814, 1)}, {"a", mixed(1000, 2), mixed(807, 1)}} {
		l := slices.Concat(most, rest)
		wantLay(t, l, framesOf(l...), api.OK)
	}
	for _, rest := range [][]string{{mixed(1821, 1)}, {mixed(mostLoad, 1)}, {"", mixed(1815, 1)}, {mixed(1820, 1), ""}, {mixed(1815, 1), ""}, {mixed(mostLoad, 1), "a"}} {
		wantLay(t, slices.Concat(most, rest), "", api.ErrFull)
		wantLay(t, slices.Concat(rest, most), "", api.ErrFull)
	}
	if s := lay(t, make([]string, 10000)); len(s) != mostDisk {
		t.Errorf("%d bytes of 10000 empty loads", len(s))
	}
	wantLay(t, make([]string, 10001), "", api.ErrFull)
	wantLay(t, filled(100000, 3), "", api.ErrFull)
	wantLay(t, filled(30, 1994), framesOf(filled(30, 1994)...), api.OK)
	wantLay(t, append(filled(29, 1994), mixed(1995, 1)), "", api.ErrFull)
}

// P15.2: the first load with an error tells it, and of one load ErrLong comes ahead of ErrFull.
func TestLayOrder(t *testing.T) {
	full, long := make([]string, 10001), mixed(mostLoad+1, 1)
	wantLay(t, slices.Concat(full, []string{long}), "", api.ErrFull)
	wantLay(t, slices.Concat(full[1:], []string{long}), "", api.ErrLong)
	wantLay(t, slices.Concat(full[1:], []string{long, ""}), "", api.ErrLong)
	wantLay(t, slices.Concat([]string{long}, full), "", api.ErrLong)
	wantLay(t, slices.Concat(filled(30, mostLoad), []string{long}), "", api.ErrFull)
	wantLay(t, slices.Concat(filled(29, mostLoad), []string{long}), "", api.ErrLong)
	wantLay(t, slices.Concat(filled(29, mostLoad), []string{long}, filled(9, mostLoad)), "", api.ErrLong)
}

// P15.3: the chapter's example, and each room about what frames have.
func TestFits(t *testing.T) {
	wantFits(t, []string{"a", "bc"}, 15, true)
	wantFits(t, []string{"a", "bc"}, 14, false)
	for _, l := range lists() {
		length := len(framesOf(l...))
		for _, room := range []int{length, length + 1, length + 6, math.MaxInt32 + 1, math.MaxInt - 1, math.MaxInt} {
			wantFits(t, l, room, true)
		}
		for _, room := range []int{length - 1, length - 2, length - 6, -1, -length - 1, -length - 6, math.MinInt32, math.MinInt, math.MinInt + 1, math.MinInt + length, math.MinInt + length + 1} {
			wantFits(t, l, room, false)
		}
		for room := range length {
			wantFits(t, l, room, false)
		}
	}
}

// P15.3: no loads fit into any room that is not negative.
func TestFitsNone(t *testing.T) {
	for _, l := range [][]string{nil, {}} {
		wantFits(t, l, 0, true)
		wantFits(t, l, 1, true)
		wantFits(t, l, math.MaxInt, true)
		wantFits(t, l, -1, false)
		wantFits(t, l, math.MinInt, false)
	}
	wantFits(t, []string{""}, 6, true)
	wantFits(t, []string{""}, 5, false)
	wantFits(t, []string{""}, 0, false)
}

// P15.3: a load of more than 2000 bytes fits into no room, wherever it stands.
func TestFitsLong(t *testing.T) {
	for _, room := range []int{2006, 2007, 5000, mostDisk, 1 << 20, math.MaxInt} {
		wantFits(t, []string{mixed(mostLoad, 1)}, room, true)
		for _, length := range []int{mostLoad + 1, mostLoad + 2, 4000, 65536, 65537} {
			long := mixed(length, 1)
			wantFits(t, []string{long}, room, false)
			wantFits(t, []string{"a", long}, room, false)
			wantFits(t, []string{long, "a"}, room, false)
		}
	}
	wantFits(t, []string{mixed(mostLoad, 1)}, 2005, false)
}

// P15.3: the room alone is the limit, beyond what a disk's zone has, too.
func TestFitsMuch(t *testing.T) {
	wantFits(t, filled(100, mostLoad), 200600, true)
	wantFits(t, filled(100, mostLoad), 200599, false)
	wantFits(t, filled(100, mostLoad), mostDisk, false)
	wantFits(t, make([]string, 10001), 60006, true)
	wantFits(t, make([]string, 10001), 60005, false)
}

// P15.2, P15.3: what may be laid is what fits into 60000 bytes, and its bytes are just the room that it needs.
func TestLayFits(t *testing.T) {
	all := lists()
	for _, length := range []int{1993, 1994, 1995, mostLoad, mostLoad + 1} {
		all = append(all, filled(29, length), filled(30, length), filled(31, length))
	}
	for _, l := range all {
		s, err := wal.Lay(l)
		wantFits(t, l, mostDisk, err == api.OK)
		if err == api.OK {
			wantFits(t, l, len(s), true)
			wantFits(t, l, len(s)-1, false)
		}
	}
}

// P15.4: the last load that can be read, an empty one too.
func TestLast(t *testing.T) {
	wantLast(t, framesOf("a", "bc"), "bc", true)
	wantLast(t, framesOf("a", "bc")[:14], "a", true)
	wantLast(t, frameOf("a")[:6], "", false)
	wantLast(t, "", "", false)
	wantLast(t, frameOf(""), "", true)
	wantLast(t, framesOf("a", ""), "", true)
	wantLast(t, framesOf("", "a"), "a", true)
	wantLast(t, framesOf("a", "b")+"\x00\x02ac????"+frameOf("c"), "b", true)
	wantLast(t, "x"+frameOf("c"), "", false)
	wantLast(t, framesOf(filled(50, mostLoad)...), mixed(mostLoad, 49), true)
	for _, tail := range tails() {
		wantLast(t, tail, "", false)
		for _, l := range lists() {
			s := framesOf(l...) + tail
			if len(l) == 0 {
				wantLast(t, s, "", false)
			} else {
				wantLast(t, s, l[len(l)-1], true)
			}
		}
	}
}

// P15.5: what was laid is scanned to its end, and what is cut off to the end of its last complete frame.
func TestCutOff(t *testing.T) {
	for _, l := range lists() {
		s := lay(t, l)
		wantScan(t, s, l, len(s))
		count, end := 0, 0
		for cut := range len(s) {
			for count < len(l) && end+len(l[count])+6 <= cut {
				end += len(l[count]) + 6
				count++
			}
			if len(s) > 10000 && cut%211 != 0 && cut-end > 5 {
				continue
			}
			wantScan(t, s[:cut], l[:count], end)
			if count > 0 {
				wantLast(t, s[:cut], l[count-1], true)
			} else {
				wantLast(t, s[:cut], "", false)
			}
		}
	}
}

// P15.6: what is put behind frames that are scanned to their end is scanned as if it stood alone.
func TestPutBehind(t *testing.T) {
	behind := tails()
	for _, l := range lists() {
		behind = append(behind, lay(t, l))
	}
	behind = append(behind, frameOf("a")+"x", framesOf("a", "b")+"\x00\x02ac????"+frameOf("c"))
	for _, l := range lists() {
		s := lay(t, l)
		for _, more := range behind {
			loads, at := wal.Scan(more)
			wantScan(t, s+more, slices.Concat(l, loads), len(s)+at)
		}
		for _, m := range lists() {
			if both := slices.Concat(l, m); wal.Fits(both, mostDisk) {
				wantLay(t, both, s+lay(t, m), api.OK)
			}
		}
	}
}

// P15.6: a log that grows by one frame after another holds them all.
func TestGrow(t *testing.T) {
	s, l := "", []string{}
	for i := range 200 {
		load := mixed(i%23, i)
		s += lay(t, []string{load})
		l = append(l, load)
		wantScan(t, s, l, len(s))
		wantLast(t, s, load, true)
	}
}

// R3: the loads that are handed in stay as they are, the room behind their list too; what is told shares nothing with the next answer.
func TestMemory(t *testing.T) {
	all := []string{"a", "bc", "", mixed(mostLoad+1, 1), "spare"}
	was := slices.Clone(all)
	for count := range all {
		wal.Lay(all[:count])
		wal.Fits(all[:count], 100)
		if !slices.Equal(all, was) {
			t.Fatalf("what was handed in became %.40q", all)
		}
	}
	s := framesOf("a", "bc")
	l, _ := wal.Scan(s)
	l[0] = "other"
	l = append(l[:1], "more")
	wantScan(t, s, []string{"a", "bc"}, 15)
	wantLast(t, s, "bc", true)
}

// R1, R4: no call panics, and the same is told each time.
func TestNoPanic(t *testing.T) {
	for i := range 2000 {
		s := mixed(i%97, i)
		l, at := wal.Scan(s)
		wantScan(t, s, l, at)
		last, found := wal.Last(s)
		wantLast(t, s, last, found)
		if at < 0 || at > len(s) || found != (len(l) > 0) {
			t.Errorf("Scan(%q) tells %d loads, %d, and Last %t", s, len(l), at, found)
		}
		for _, room := range []int{math.MinInt, -1, 0, i, math.MaxInt} {
			wantFits(t, []string{s, s}, room, room >= 2*len(s)+12)
		}
		wantLay(t, []string{s, s}, frameOf(s)+frameOf(s), api.OK)
	}
}
