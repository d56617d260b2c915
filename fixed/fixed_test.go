package fixed_test

import (
	"math"
	"strings"
	"testing"

	"cambist/api"
	"cambist/fixed"
)

// extremes are ints that no width and no offset may be, and at which a careless sum overflows.
var extremes = []int{math.MinInt, math.MinInt + 1, math.MinInt + 8, -math.MaxInt32, -1, math.MaxInt32, math.MaxInt - 8, math.MaxInt - 1, math.MaxInt}

func wantPut(t *testing.T, n, width int, want string, wantErr api.Errno) {
	t.Helper()
	got, err := fixed.Put(n, width)
	if got != want || err != wantErr {
		t.Errorf("Put(%d, %d) = %q, %d, want %q, %d", n, width, got, err, want, wantErr)
	}
}

func wantGet(t *testing.T, s string, at, width, want int, wantErr api.Errno) {
	t.Helper()
	got, err := fixed.Get(s, at, width)
	if got != want || err != wantErr {
		t.Errorf("Get(%q, %d, %d) = %d, %d, want %d, %d", s, at, width, got, err, want, wantErr)
	}
}

func wantGetInt(t *testing.T, s string, at, want int, wantErr api.Errno) {
	t.Helper()
	got, err := fixed.GetInt(s, at)
	if got != want || err != wantErr {
		t.Errorf("GetInt(%q, %d) = %d, %d, want %d, %d", s, at, got, err, want, wantErr)
	}
}

func wantGetText(t *testing.T, s string, at int, want string, wantNext int, wantErr api.Errno) {
	t.Helper()
	got, next, err := fixed.GetText(s, at)
	if got != want || next != wantNext || err != wantErr {
		t.Errorf("GetText(%d bytes, %d) = %d bytes, %d, %d, want %d bytes, %d, %d", len(s), at, len(got), next, err, len(want), wantNext, wantErr)
	}
}

// numbers are some that fit into width bytes, ascending: the edges of every smaller width, and what lies between.
func numbers(width int) []int {
	l := []int{0, 1}
	for w := 1; w <= width; w++ {
		top := 1 << (8 * w)
		l = append(l, top/2-1, top/2, top-2, top-1)
		if w < width {
			l = append(l, top, top+1, top+top/2+3)
		}
	}
	return l
}

// ints are some of all sorts.
func ints() []int {
	l := append([]int{0, math.MinInt}, extremes...)
	for bit := range 63 {
		n := 1 << bit
		l = append(l, n, n-1, n+1, -n, -n-1, -n+1)
	}
	return append(l, 0x0102030405060708, -0x0102030405060708)
}

// P1.1: the bytes of a number, most significant byte first.
func TestPut(t *testing.T) {
	wantPut(t, 300, 2, "\x01\x2c", api.OK)
	wantPut(t, 0, 1, "\x00", api.OK)
	wantPut(t, 7, 1, "\x07", api.OK)
	wantPut(t, 0, 7, "\x00\x00\x00\x00\x00\x00\x00", api.OK)
	wantPut(t, 300, 7, "\x00\x00\x00\x00\x00\x01\x2c", api.OK)
	all := "\x01\x02\x03\x04\x05\x06\x07"
	n := 0
	for width := 1; width <= 7; width++ {
		n = n*256 + width
		wantPut(t, n, width, all[:width], api.OK)
	}
}

// P1.1: what fits just so, and what is too great by one.
func TestPutFits(t *testing.T) {
	for width := 1; width <= 7; width++ {
		top := 1 << (8 * width)
		wantPut(t, top-1, width, strings.Repeat("\xff", width), api.OK)
		wantPut(t, top, width, "", api.ErrArg)
		wantPut(t, top+1, width, "", api.ErrArg)
		wantPut(t, math.MaxInt, width, "", api.ErrArg)
		if width < 7 {
			wantPut(t, top, width+1, "\x01"+strings.Repeat("\x00", width), api.OK)
		}
	}
}

// P1.1: negative numbers, and widths that are none.
func TestPutWrong(t *testing.T) {
	wantPut(t, 300, 1, "", api.ErrArg)
	for width := 1; width <= 7; width++ {
		for _, n := range []int{-1, -255, -256, math.MinInt, math.MinInt + 1} {
			wantPut(t, n, width, "", api.ErrArg)
		}
	}
	for _, width := range append([]int{0, 8, 9, 64}, extremes...) {
		for _, n := range []int{0, 1, 300, -1, math.MaxInt, math.MinInt} {
			wantPut(t, n, width, "", api.ErrArg)
		}
	}
}

// P1.2: the number at an offset.
func TestGet(t *testing.T) {
	wantGet(t, "\x01\x2c", 0, 2, 300, api.OK)
	s := "\x01\x02\x03\x04\x05\x06\x07\xff\x80"
	n := 0
	for width := 1; width <= 7; width++ {
		n = n*256 + width
		wantGet(t, s, 0, width, n, api.OK)
	}
	wantGet(t, s, 1, 1, 2, api.OK)
	wantGet(t, s, 5, 3, 0x0607ff, api.OK)
	wantGet(t, s, 7, 2, 0xff80, api.OK)
	wantGet(t, s, 8, 1, 0x80, api.OK)
	wantGet(t, strings.Repeat("\xff", 7), 0, 7, 1<<56-1, api.OK)
}

// P1.2: bytes that end too soon, the offset behind the last byte among them.
func TestGetShort(t *testing.T) {
	wantGet(t, "\x01", 0, 2, 0, api.ErrShort)
	s := "\x01\x02\x03\x04\x05\x06\x07"
	for at := 0; at <= len(s); at++ {
		for width := 1; width <= 7; width++ {
			if at+width > len(s) {
				wantGet(t, s, at, width, 0, api.ErrShort)
			}
		}
	}
	wantGet(t, "", 0, 1, 0, api.ErrShort)
}

// P1.2: wrong offsets and widths, which come ahead of bytes that end too soon.
func TestGetWrong(t *testing.T) {
	for _, at := range append([]int{3, 4}, extremes...) {
		wantGet(t, "\x01\x2c", at, 1, 0, api.ErrArg)
		wantGet(t, "\x01\x2c", at, 7, 0, api.ErrArg)
	}
	wantGet(t, "", 1, 1, 0, api.ErrArg)
	for _, width := range append([]int{0, 8, 9}, extremes...) {
		for at := 0; at <= 10; at++ {
			wantGet(t, "0123456789", at, width, 0, api.ErrArg)
		}
	}
}

// P1.3 (PutInt): eight bytes, modulo 2 to the 64th.
func TestPutInt(t *testing.T) {
	for _, c := range []struct {
		n    int
		want string
	}{
		{0, "\x00\x00\x00\x00\x00\x00\x00\x00"},
		{1, "\x00\x00\x00\x00\x00\x00\x00\x01"},
		{300, "\x00\x00\x00\x00\x00\x00\x01\x2c"},
		{0x0102030405060708, "\x01\x02\x03\x04\x05\x06\x07\x08"},
		{math.MaxInt, "\x7f\xff\xff\xff\xff\xff\xff\xff"},
		{-1, "\xff\xff\xff\xff\xff\xff\xff\xff"},
		{-2, "\xff\xff\xff\xff\xff\xff\xff\xfe"},
		{-256, "\xff\xff\xff\xff\xff\xff\xff\x00"},
		{math.MinInt, "\x80\x00\x00\x00\x00\x00\x00\x00"},
	} {
		if got := fixed.PutInt(c.n); got != c.want {
			t.Errorf("PutInt(%d) = %q, want %q", c.n, got, c.want)
		}
	}
}

// P1.3 (GetInt): the int at an offset.
func TestGetInt(t *testing.T) {
	wantGetInt(t, "\xff\xff\xff\xff\xff\xff\xff\xfe", 0, -2, api.OK)
	wantGetInt(t, "\x7f\xff\xff\xff\xff\xff\xff\xff", 0, math.MaxInt, api.OK)
	wantGetInt(t, "\x80\x00\x00\x00\x00\x00\x00\x00", 0, math.MinInt, api.OK)
	s := "\x01\x02\x03\x04\x05\x06\x07\x08\x09\x0a"
	wantGetInt(t, s, 0, 0x0102030405060708, api.OK)
	wantGetInt(t, s, 2, 0x030405060708090a, api.OK)
}

// P1.3 (GetInt): bytes that end too soon, and wrong offsets ahead of them.
func TestGetIntWrong(t *testing.T) {
	s := "0123456789"
	for at := 3; at <= 10; at++ {
		wantGetInt(t, s, at, 0, api.ErrShort)
	}
	for length := range 8 {
		wantGetInt(t, s[:length], 0, 0, api.ErrShort)
		wantGetInt(t, s[:length], length, 0, api.ErrShort)
		wantGetInt(t, s[:length], length+1, 0, api.ErrArg)
	}
	for _, at := range append([]int{11, 12}, extremes...) {
		wantGetInt(t, s, at, 0, api.ErrArg)
	}
}

// P1.4 (PutText): the length in two bytes, then the text; one of 4001 bytes is too long.
func TestPutText(t *testing.T) {
	for _, c := range []struct {
		s, head string
	}{
		{"", "\x00\x00"},
		{"ab", "\x00\x02"},
		{"\x00\xff\n", "\x00\x03"},
		{"\u00e9", "\x00\x02"},
		{strings.Repeat("x", 255), "\x00\xff"},
		{strings.Repeat("x", 256), "\x01\x00"},
		{strings.Repeat("x", 3999), "\x0f\x9f"},
		{strings.Repeat("x", 4000), "\x0f\xa0"},
	} {
		if got, err := fixed.PutText(c.s); got != c.head+c.s || err != api.OK {
			t.Errorf("PutText of %d bytes: %d bytes, %d", len(c.s), len(got), err)
		}
	}
	for _, length := range []int{4001, 4002, 65535, 65536, 65536 + 2} {
		if got, err := fixed.PutText(strings.Repeat("x", length)); got != "" || err != api.ErrLong {
			t.Errorf("PutText of %d bytes: %d bytes, %d, want none, ErrLong", length, len(got), err)
		}
	}
}

// P1.4 (GetText): the text at an offset, and the offset after it.
func TestGetText(t *testing.T) {
	wantGetText(t, "\x00\x02abc", 0, "ab", 4, api.OK)
	wantGetText(t, "\x00\x02ab", 0, "ab", 4, api.OK)
	wantGetText(t, "\x00\x00", 0, "", 2, api.OK)
	wantGetText(t, "\x00\x00abc", 0, "", 2, api.OK)
	wantGetText(t, "xyz\x00\x03a\x00c\x00\x01d", 3, "a\x00c", 8, api.OK)
	wantGetText(t, "xyz\x00\x03a\x00c\x00\x01d", 8, "d", 11, api.OK)
	long := strings.Repeat("x", 4001)
	wantGetText(t, "\x01\x00"+long, 0, long[:256], 258, api.OK)
	wantGetText(t, "\x0f\xa0"+long, 0, long[:4000], 4002, api.OK)
	wantGetText(t, "\x0f\xa0"+long[:4000], 0, long[:4000], 4002, api.OK)
}

// P1.4 (GetText): the error of Get, then a length above 4000, then a text that ends too soon.
func TestGetTextWrong(t *testing.T) {
	s := "\x00\x02ab"
	for _, at := range append([]int{5, 6}, extremes...) {
		wantGetText(t, s, at, "", 0, api.ErrArg)
	}
	wantGetText(t, s, 3, "", 0, api.ErrShort)
	wantGetText(t, s, 4, "", 0, api.ErrShort)
	wantGetText(t, "", 0, "", 0, api.ErrShort)
	wantGetText(t, "\xff", 0, "", 0, api.ErrShort)
	wantGetText(t, "\x00\x05abc", 0, "", 0, api.ErrShort)
	wantGetText(t, "\x00\x01", 0, "", 0, api.ErrShort)
	long := strings.Repeat("x", 65535)
	wantGetText(t, "\x0f\xa0"+long[:3999], 0, "", 0, api.ErrShort)
	for _, head := range []string{"\x0f\xa1", "\x10\x00", "\xff\xff"} {
		wantGetText(t, head+long, 0, "", 0, api.ErrLong)
		wantGetText(t, head+"abc", 0, "", 0, api.ErrLong)
		wantGetText(t, head, 0, "", 0, api.ErrLong)
	}
}

// P1.5: what was encoded is decoded again, whatever stands around it.
func TestDecodedAgain(t *testing.T) {
	for _, before := range []string{"", "x", "\xff\xff\xff", strings.Repeat("\x00\xff", 150)} {
		for _, after := range []string{"", "\x00", "\xff\xff\xff\xff\xff\xff\xff\xff\xff"} {
			at := len(before)
			for width := 1; width <= 7; width++ {
				for _, n := range numbers(width) {
					s, _ := fixed.Put(n, width)
					wantGet(t, before+s+after, at, width, n, api.OK)
				}
			}
			for _, n := range ints() {
				wantGetInt(t, before+fixed.PutInt(n)+after, at, n, api.OK)
			}
			for _, text := range []string{"", "a", "\x00\x02", "\xff\xfe", strings.Repeat("z", 4000)} {
				s, _ := fixed.PutText(text)
				wantGetText(t, before+s+after, at, text, at+len(s), api.OK)
			}
		}
	}
}

// P1.6: for one width, the bytes are in the order of the numbers.
func TestSameOrder(t *testing.T) {
	for width := 1; width <= 7; width++ {
		l := numbers(width)
		for i, a := range l {
			for j, b := range l {
				s, _ := fixed.Put(a, width)
				u, _ := fixed.Put(b, width)
				if len(s) != width || strings.Compare(s, u) < 0 != (a < b) {
					t.Errorf("width %d: numbers %d and %d (%d, %d): %q, %q", width, i, j, a, b, s, u)
				}
			}
		}
	}
	last := ""
	for n := range 1 << 16 {
		s, err := fixed.Put(n, 2)
		if err != api.OK || s <= last && n > 0 {
			t.Fatalf("Put(%d, 2) = %q, %d, behind %q", n, s, err, last)
		}
		last = s
	}
}

// P1.7: any eight bytes are the PutInt of one int, and of no other.
func TestEveryEightBytes(t *testing.T) {
	seen := map[int]string{}
	for _, base := range []string{strings.Repeat("\x00", 8), strings.Repeat("\xff", 8), "\x80\x01\x7f\xfe\x55\xaa\x0f\xf0"} {
		for place := range 8 {
			for b := range 256 {
				s := base[:place] + string([]byte{byte(b)}) + base[place+1:]
				n, err := fixed.GetInt(s, 0)
				if err != api.OK || fixed.PutInt(n) != s {
					t.Errorf("GetInt(%q) = %d, %d, and PutInt of it %q", s, n, err, fixed.PutInt(n))
				}
				if old, ok := seen[n]; ok && old != s {
					t.Errorf("%q and %q are both %d", old, s, n)
				}
				seen[n] = s
			}
		}
	}
}

// R1: no call panics, whatever it is given.
func TestNoPanic(t *testing.T) {
	wild := append([]int{0, 1, 2, 3, 7, 8, 9, 10, 11}, extremes...)
	for _, s := range []string{"", "\x00", "\x00\x01", "\x00\x05abc", "\xff\xff\xff\xff\xff\xff\xff\xff\xff\xff"} {
		for _, a := range wild {
			fixed.PutInt(a)
			fixed.GetInt(s, a)
			fixed.GetText(s, a)
			for _, b := range wild {
				fixed.Put(a, b)
				fixed.Get(s, a, b)
			}
		}
	}
}
