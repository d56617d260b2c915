package crc_test

import (
	"math"
	"strings"
	"testing"

	"cambist/api"
	"cambist/crc"
)

// extremes are ints that no offset may be, and at which a careless sum overflows.
var extremes = []int{math.MinInt, math.MinInt + 1, math.MinInt + 8, -math.MaxInt32, -1, math.MaxInt32, math.MaxInt - 8, math.MaxInt - 1, math.MaxInt}

// wraps are what may stand before and behind a frame.
var wraps = []string{"", "x", "\x00\x00\x00\x00", "\xff\xff\xff", "\x00\x00\xff\x12\xd9\x41", strings.Repeat("\x00\xff", 150)}

// bitSum is the checksum by P2.1's own words, a bit at a time.
func bitSum(s string) int {
	register := uint32(0xffffffff)
	for _, b := range []byte(s) {
		register ^= uint32(b)
		for range 8 {
			out := register & 1
			register >>= 1
			if out == 1 {
				register ^= 0xedb88320
			}
		}
	}
	return int(^register)
}

// frameOf is a frame by the chapter's definition, of a load of whatever length two bytes hold.
func frameOf(load string) string {
	body := string([]byte{byte(len(load) >> 8), byte(len(load))}) + load
	n := bitSum(body)
	return body + string([]byte{byte(n), byte(n >> 8), byte(n >> 16), byte(n >> 24)})
}

// mixed is a text of bytes of all sorts, the same one for the same numbers.
func mixed(length, seed int) string {
	b := make([]byte, length)
	u := uint32(seed)*2654435761 + 1
	for i := range b {
		u = u*1664525 + 1013904223
		b[i] = byte(u >> 24)
	}
	return string(b)
}

// loads are some of all sorts that a frame may have.
func loads() []string {
	l := []string{"", "a", "ab", "\x00", "\xff", "\x00\x00\xff\x12\xd9\x41", strings.Repeat("\x00", 300), strings.Repeat("\xff", 2000)}
	for _, length := range []int{3, 7, 31, 255, 256, 257, 1023, 1999, 2000} {
		l = append(l, mixed(length, length))
	}
	return l
}

func wantSum(t *testing.T, s string, want int) {
	t.Helper()
	if got := crc.Sum(s); got != want {
		t.Errorf("Sum of %d bytes %.20q = %#x, want %#x", len(s), s, got, want)
	}
}

func wantFrame(t *testing.T, load, want string, wantErr api.Errno) {
	t.Helper()
	got, err := crc.Frame(load)
	if got != want || err != wantErr {
		t.Errorf("Frame of %d bytes %.20q = %d bytes %.20q, %d, want %d bytes %.20q, %d", len(load), load, len(got), got, err, len(want), want, wantErr)
	}
}

func wantOpen(t *testing.T, s string, at int, want string, wantNext int, wantErr api.Errno) {
	t.Helper()
	got, next, err := crc.Open(s, at)
	if got != want || next != wantNext || err != wantErr {
		t.Errorf("Open(%d bytes %.20q, %d) = %d bytes, %d, %d, want %d bytes, %d, %d", len(s), s, at, len(got), next, err, len(want), wantNext, wantErr)
	}
}

// P2.1: checksums that are known.
func TestSum(t *testing.T) {
	wantSum(t, "", 0)
	wantSum(t, "123456789", 0xcbf43926)
	wantSum(t, "\x00", 0xd202ef8d)
	wantSum(t, "\xff", 0xff000000)
	wantSum(t, "\x00\x00\x00\x00", 0x2144df1c)
	wantSum(t, "\xff\xff\xff\xff", 0xffffffff)
	wantSum(t, "\x00\x00", 0x41d912ff)
	wantSum(t, "a", 0xe8b7be43)
	wantSum(t, "The quick brown fox jumps over the lazy dog", 0x414fa339)
	wantSum(t, "\u00e9", bitSum("\xc3\xa9"))
}

// P2.1: the checksums that go by single bits, of all texts of one and two bytes, and of longer ones.
func TestSumByBits(t *testing.T) {
	for a := range 256 {
		wantSum(t, string([]byte{byte(a)}), bitSum(string([]byte{byte(a)})))
		for b := range 256 {
			s := string([]byte{byte(a), byte(b)})
			wantSum(t, s, bitSum(s))
		}
	}
	for length := range 300 {
		s := mixed(length, length+1)
		wantSum(t, s, bitSum(s))
	}
	for _, length := range []int{2000, 4095, 60000, 1 << 20} {
		s := mixed(length, length)
		wantSum(t, s, bitSum(s))
	}
}

// P2.2: the length in two bytes, the load, and the checksum of both, least significant byte first.
func TestFrame(t *testing.T) {
	wantFrame(t, "", "\x00\x00\xff\x12\xd9\x41", api.OK)
	wantFrame(t, "ab", frameOf("ab"), api.OK)
	for _, load := range loads() {
		wantFrame(t, load, frameOf(load), api.OK)
	}
}

// P2.2: a load of 2000 bytes is the longest, whatever two bytes would hold of its length.
func TestFrameLong(t *testing.T) {
	for _, length := range []int{1998, 1999, 2000} {
		load := mixed(length, 5)
		wantFrame(t, load, frameOf(load), api.OK)
	}
	for _, length := range []int{2001, 2002, 2256, 4000, 65535, 65536, 65536 + 2, 65536 + 2000} {
		wantFrame(t, mixed(length, 5), "", api.ErrLong)
	}
}

// P2.3: the load, and the offset after the frame.
func TestOpen(t *testing.T) {
	wantOpen(t, frameOf("ab"), 0, "ab", 8, api.OK)
	wantOpen(t, "\x00\x00\xff\x12\xd9\x41", 0, "", 6, api.OK)
	s := frameOf("one") + frameOf("") + frameOf("three")
	wantOpen(t, s, 0, "one", 9, api.OK)
	wantOpen(t, s, 9, "", 15, api.OK)
	wantOpen(t, s, 15, "three", 26, api.OK)
	wantOpen(t, frameOf(mixed(2000, 1)), 0, mixed(2000, 1), 2006, api.OK)
}

// P2.3: the errors of fixed.Get for the length: wrong offsets, then a length that ends too soon.
func TestOpenNoLength(t *testing.T) {
	for _, s := range []string{"", "\x00", "\xff", frameOf("ab"), frameOf("ab") + "\x00", frameOf(strings.Repeat("z", 2000))} {
		for _, at := range append([]int{len(s) + 1, len(s) + 2, len(s) + 8}, extremes...) {
			wantOpen(t, s, at, "", 0, api.ErrArg)
		}
		wantOpen(t, s, len(s), "", 0, api.ErrShort)
		if len(s) > 0 {
			wantOpen(t, s, len(s)-1, "", 0, api.ErrShort)
		}
	}
}

// P2.3: a length above 2000 comes ahead of a load that ends too soon and of a wrong checksum, and a right one doesn't help.
func TestOpenLong(t *testing.T) {
	for _, length := range []int{2001, 2002, 2256, 32768, 65535} {
		s := frameOf(mixed(length, 3))
		wantOpen(t, s, 0, "", 0, api.ErrLong)
		wantOpen(t, "ab"+s, 2, "", 0, api.ErrLong)
		wantOpen(t, s[:len(s)-1], 0, "", 0, api.ErrLong)
		wantOpen(t, s[:len(s)-1]+"?", 0, "", 0, api.ErrLong)
		wantOpen(t, s[:2], 0, "", 0, api.ErrLong)
	}
	wantOpen(t, "\x07\xd0", 0, "", 0, api.ErrShort)
}

// P2.3: fewer bytes than the load and four more come ahead of a wrong checksum.
func TestOpenShort(t *testing.T) {
	wantOpen(t, frameOf("ab")[:7], 0, "", 0, api.ErrShort)
	wantOpen(t, "\x00\x02????", 0, "", 0, api.ErrShort)
	wantOpen(t, "\x00\x02?????", 0, "", 0, api.ErrShort)
	wantOpen(t, "\x00\x02??????", 0, "", 0, api.ErrSum)
	wantOpen(t, "\x00\x00???", 0, "", 0, api.ErrShort)
	wantOpen(t, "\x00\x00????", 0, "", 0, api.ErrSum)
	wantOpen(t, "\x07\xd0"+strings.Repeat("?", 2003), 0, "", 0, api.ErrShort)
	wantOpen(t, "\x07\xd0"+strings.Repeat("?", 2004), 0, "", 0, api.ErrSum)
}

// P2.3: bytes that are not the checksum of the frame's own bytes, or are so in another order or of other bytes.
func TestOpenSum(t *testing.T) {
	s := frameOf("ab")
	wantOpen(t, "\x00\x02ac"+s[4:], 0, "", 0, api.ErrSum)
	wantOpen(t, "\x00\x02ab"+string([]byte{s[7], s[6], s[5], s[4]}), 0, "", 0, api.ErrSum)
	for place := 4; place < 8; place++ {
		for b := range 256 {
			if byte(b) != s[place] {
				wantOpen(t, s[:place]+string([]byte{byte(b)})+s[place+1:], 0, "", 0, api.ErrSum)
			}
		}
	}
	n := bitSum("ab")
	wantOpen(t, "\x00\x02ab"+string([]byte{byte(n), byte(n >> 8), byte(n >> 16), byte(n >> 24)}), 0, "", 0, api.ErrSum)
	whole := "x" + s[:4]
	n = bitSum(whole)
	wantOpen(t, whole+string([]byte{byte(n), byte(n >> 8), byte(n >> 16), byte(n >> 24)}), 1, "", 0, api.ErrSum)
	wantOpen(t, frameOf("ab")+frameOf("ab"), 8, "ab", 16, api.OK)
	wantOpen(t, frameOf("ab")+"\x00\x02ac"+s[4:], 8, "", 0, api.ErrSum)
}

// P2.4: a frame is opened to its load, whatever stands around it.
func TestOpenedAgain(t *testing.T) {
	for _, load := range loads() {
		s, err := crc.Frame(load)
		if err != api.OK {
			t.Fatalf("Frame of %d bytes: %d", len(load), err)
		}
		for _, before := range wraps {
			for _, after := range wraps {
				wantOpen(t, before+s+after, len(before), load, len(before)+len(s), api.OK)
			}
		}
	}
}

// P2.4: a frame that is cut off anywhere ends too soon.
func TestCutOff(t *testing.T) {
	for _, load := range loads() {
		s, _ := crc.Frame(load)
		for end := range len(s) {
			wantOpen(t, s[:end], 0, "", 0, api.ErrShort)
			wantOpen(t, "\xff\xff\xff"+s[:end], 3, "", 0, api.ErrShort)
		}
	}
}

// inverted is s with the bits of pattern inverted from the bit first of s on, the bits of a byte from the least significant one on.
func inverted(s string, first int, pattern uint32) string {
	b := []byte(s)
	for i := range 32 {
		if pattern>>i&1 == 1 {
			b[(first+i)/8] ^= 1 << ((first + i) % 8)
		}
	}
	return string(b)
}

// patterns are bits to invert, the least significant one always: all of up to ten bits, and some of up to 32.
func patterns() []uint32 {
	l := []uint32{}
	for n := uint32(1); n < 1<<10; n += 2 {
		l = append(l, n)
	}
	for i := range 200 {
		bits := mixed(4, i)
		n := uint32(bits[0]) | uint32(bits[1])<<8 | uint32(bits[2])<<16 | uint32(bits[3])<<24
		l = append(l, n|1, n|1<<31|1, n>>(i%20)|1)
	}
	// These are the checksum's own pattern, in both orders of its bits.
	return append(l, 0xffffffff, 0x80000001, 0xedb88321, 0xdb710641, 0x04c11db7, 0x82608edb)
}

// P2.5: inverted bits within 32 behind the length are noticed, wherever they lie.
func TestInvertedBits(t *testing.T) {
	all := patterns()
	for _, load := range []string{"", "a", "ab", "\x00\x00\x00", mixed(17, 2)} {
		s, _ := crc.Frame(load)
		for first := 16; first < 8*len(s); first++ {
			for _, pattern := range all {
				if room := 8*len(s) - first; room < 32 {
					pattern &= 1<<room - 1
				}
				wantOpen(t, inverted(s, first, pattern), 0, "", 0, api.ErrSum)
			}
		}
	}
}

// P2.5: the same in the longest frame, and in one behind other bytes.
func TestInvertedBitsFar(t *testing.T) {
	s, _ := crc.Frame(mixed(2000, 9))
	for first := 16; first <= 8*len(s)-32; first += 61 {
		for _, pattern := range []uint32{1, 3, 0x80000001, 0xffffffff, 0xedb88321, 0xdb710641} {
			bad := inverted(s, first, pattern)
			wantOpen(t, bad, 0, "", 0, api.ErrSum)
			wantOpen(t, "xyz"+bad+s, 3, "", 0, api.ErrSum)
		}
	}
}

// P2.6: the checksum of three texts combined is their checksums combined.
func TestThreeCombined(t *testing.T) {
	for length := range 70 {
		for seed := range 20 {
			a, b, c := mixed(length, seed), mixed(length, seed+100), mixed(length, 7*seed+1000)
			wantCombined(t, a, b, c)
			wantCombined(t, a, a, c)
			wantCombined(t, a, strings.Repeat("\x00", length), strings.Repeat("\xff", length))
		}
	}
	wantCombined(t, mixed(60000, 1), mixed(60000, 2), mixed(60000, 3))
}

func wantCombined(t *testing.T, a, b, c string) {
	t.Helper()
	all := make([]byte, len(a))
	for i := range all {
		all[i] = a[i] ^ b[i] ^ c[i]
	}
	wantSum(t, string(all), crc.Sum(a)^crc.Sum(b)^crc.Sum(c))
}

// R1: no call panics, whatever it is given.
func TestNoPanic(t *testing.T) {
	for _, s := range []string{"", "\x00", "\x00\x00", "\x00\x05abc", "\xff\xff\xff\xff\xff\xff\xff", frameOf("ab"), mixed(5000, 1)} {
		crc.Sum(s)
		crc.Frame(s)
		for _, at := range append([]int{0, 1, 2, 3, 6, 7, 8, 9, 4999, 5000, 5001}, extremes...) {
			crc.Open(s, at)
		}
	}
}
