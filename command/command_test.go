package command_test

import (
	"math"
	"slices"
	"strings"
	"testing"

	"cambist/api"
	"cambist/command"
)

// The limits, by the chapter's own figures.
const (
	mostAmount = 1125899906842624
	mostBallot = 1073741824
	length     = 30
)

// field is a number of a command: what it may be if the command does something, and where its bytes stand.
type field struct {
	name        string
	of          func(c *api.Cmd) *int
	least, most int
	at, width   int
}

func fields() []field {
	return []field{
		{"Kind", func(c *api.Cmd) *int { return &c.Kind }, 1, 8, 0, 1},
		{"Client", func(c *api.Cmd) *int { return &c.Client }, 0, 63, 1, 1},
		{"Lane", func(c *api.Cmd) *int { return &c.Lane }, 0, 5, 2, 1},
		{"Asset", func(c *api.Cmd) *int { return &c.Asset }, 0, 7, 3, 1},
		{"Side", func(c *api.Cmd) *int { return &c.Side }, 0, 2, 4, 1},
		{"Seq", func(c *api.Cmd) *int { return &c.Seq }, 1, mostAmount, 5, 7},
		{"Price", func(c *api.Cmd) *int { return &c.Price }, 0, mostAmount, 12, 7},
		{"Qty", func(c *api.Cmd) *int { return &c.Qty }, 0, mostAmount, 19, 7},
		{"Order", func(c *api.Cmd) *int { return &c.Order }, 0, mostBallot, 26, 4},
	}
}

// set is c but for one number.
func (f field) set(c api.Cmd, n int) api.Cmd {
	*f.of(&c) = n
	return c
}

// put is the text s of a command but for the bytes of one number.
func (f field) put(s string, n int) string {
	b := []byte(s)
	for i := range f.width {
		b[f.at+i] = byte(n >> (8 * (f.width - 1 - i)))
	}
	return string(b)
}

// numbers are ints of all sorts: the least and the greatest ones, those about each limit, and such as look like a right one in their last bytes.
func numbers() []int {
	return []int{math.MinInt, math.MinInt + 1, -mostAmount, math.MinInt32, -256, -255, -64, -2, -1, 0, 1, 2, 3, 4, 5, 6, 7, 8, 9, 62, 63, 64, 65, 127, 128, 255, 256, 257, 1 << 16, mostBallot - 1, mostBallot, mostBallot + 1, math.MaxInt32, 1 << 32, 1<<32 + 1, mostAmount - 1, mostAmount, mostAmount + 1, 1<<56 - 1, 1 << 56, 1<<56 + 1, math.MaxInt - 1, math.MaxInt}
}

// plain is a command that may be, of the chapter's example.
func plain() api.Cmd {
	return api.Cmd{Kind: api.CmdLimit, Client: 3, Seq: 9, Lane: 1, Side: api.Buy, Price: 300, Qty: 7}
}

// least and most are the commands of the least and of the greatest numbers that may be.
func least() api.Cmd {
	return api.Cmd{Kind: api.CmdDeposit, Seq: 1}
}

func most() api.Cmd {
	return api.Cmd{Kind: api.CmdTop, Client: 63, Seq: mostAmount, Lane: 5, Asset: 7, Order: mostBallot, Side: api.Sell, Price: mostAmount, Qty: mostAmount}
}

// right are count commands that may be, the same ones at each call.
func right(count int) []api.Cmd {
	l := []api.Cmd{{}, plain(), least(), most()}
	u := uint64(count)*2654435769 + 1
	for len(l) < count {
		c := api.Cmd{}
		for _, f := range fields() {
			u = u*6364136223846793005 + 1442695040888963407
			span := uint64(f.most - f.least + 1)
			pool := []int{f.least, f.least, f.least + 1, f.most - 1, f.most, f.least + int((u>>8)%span), f.least + int((u>>8)%min(span, 300))}
			c = f.set(c, pool[int(u>>40)%len(pool)])
		}
		l = append(l, c)
	}
	return l
}

// crowded are the commands of each kind, clients and lanes, of which many have the same numbers; some may not be.
func crowded() []api.Cmd {
	l := []api.Cmd{}
	for kind := -1; kind <= 9; kind++ {
		for _, client := range []int{0, 1, 5, 63, 64} {
			for _, lane := range []int{0, 1, 5, 6} {
				l = append(l, api.Cmd{Kind: kind, Client: client, Lane: lane, Seq: 1 + len(l), Asset: len(l) % 8, Order: len(l) % 3})
			}
		}
	}
	return l
}

// hasLane tells which kinds have a lane as a key, by the chapter's list.
func hasLane(kind int) bool {
	return slices.Contains([]int{api.CmdLimit, api.CmdIoc, api.CmdCancel, api.CmdCollect, api.CmdTop}, kind)
}

func wantCheck(t *testing.T, c api.Cmd, want api.Errno) {
	t.Helper()
	if got := command.Check(c); got != want {
		t.Errorf("Check(%+v) = %d, want %d", c, got, want)
	}
}

func wantKeys(t *testing.T, c api.Cmd, want ...api.Key) {
	t.Helper()
	if got := command.Keys(c); !slices.Equal(got, want) {
		t.Errorf("Keys(%+v) = %v, want %v", c, got, want)
	}
}

func wantMeets(t *testing.T, a, b api.Cmd, want bool) {
	t.Helper()
	if got := command.Meets(a, b); got != want {
		t.Errorf("Meets(%+v, %+v) = %t, want %t", a, b, got, want)
	}
}

func wantMoves(t *testing.T, c api.Cmd, want bool) {
	t.Helper()
	if got := command.Moves(c); got != want {
		t.Errorf("Moves(%+v) = %t, want %t", c, got, want)
	}
}

func wantWrite(t *testing.T, c api.Cmd, want string, wantErr api.Errno) {
	t.Helper()
	got, err := command.Write(c)
	if got != want || err != wantErr {
		t.Errorf("Write(%+v) = %q, %d, want %q, %d", c, got, err, want, wantErr)
	}
}

func wantRead(t *testing.T, s string, at int, want api.Cmd, wantNext int, wantErr api.Errno) {
	t.Helper()
	got, next, err := command.Read(s, at)
	if got != want || next != wantNext || err != wantErr {
		t.Errorf("Read(%d bytes %.70q, %d) = %+v, %d, %d, want %+v, %d, %d", len(s), s, at, got, next, err, want, wantNext, wantErr)
	}
}

func wantNotRead(t *testing.T, s string, at int, wantErr api.Errno) {
	t.Helper()
	wantRead(t, s, at, api.Cmd{}, 0, wantErr)
}

// written is what Write makes of a command that may be.
func written(t *testing.T, c api.Cmd) string {
	t.Helper()
	s, err := command.Write(c)
	if len(s) != length || err != api.OK {
		t.Fatalf("Write(%+v) = %q, %d, want %d bytes", c, s, err, length)
	}
	return s
}

func account(id int) api.Key {
	return api.Key{Id: id}
}

func lane(id int) api.Key {
	return api.Key{Lane: true, Id: id}
}

// P6.1: the limits and kinds are the chapter's.
func TestLimits(t *testing.T) {
	got := []int{api.MaxAmount, api.MaxBallot, api.MaxAccounts, api.MaxLanes, api.MaxAssets, api.Sell, api.CmdDeposit, api.CmdTop}
	if want := []int{mostAmount, mostBallot, 64, 6, 8, 2, 1, 8}; !slices.Equal(got, want) {
		t.Fatalf("limits %d, want %d", got, want)
	}
}

// P6.1: the zero command, and those whose numbers all may be.
func TestCheck(t *testing.T) {
	wantCheck(t, api.Cmd{}, api.OK)
	wantCheck(t, plain(), api.OK)
	wantCheck(t, least(), api.OK)
	wantCheck(t, most(), api.OK)
	for _, c := range right(300) {
		wantCheck(t, c, api.OK)
	}
	for kind := 1; kind <= 8; kind++ {
		for _, c := range []api.Cmd{least(), plain(), most()} {
			c.Kind = kind
			wantCheck(t, c, api.OK)
		}
	}
}

// P6.1: one number that may not be is enough, whichever it is and whatever the others are.
func TestCheckWrong(t *testing.T) {
	wantCheck(t, api.Cmd{Kind: api.CmdLimit, Client: 64, Seq: 9, Lane: 1, Side: api.Buy, Price: 300, Qty: 7}, api.ErrArg)
	for _, f := range fields() {
		for _, n := range append(numbers(), f.least-1, f.least, f.most, f.most+1) {
			want := api.OK
			if n < f.least || n > f.most {
				want = api.ErrArg
			}
			for _, c := range []api.Cmd{least(), plain(), most()} {
				wantCheck(t, f.set(c, n), want)
			}
		}
	}
}

// P6.1: of kind CmdNone there is the zero command alone.
func TestCheckNone(t *testing.T) {
	wantCheck(t, api.Cmd{Client: 1}, api.ErrArg)
	wantCheck(t, api.Cmd{Seq: 1}, api.ErrArg)
	wantCheck(t, api.Cmd{Client: 3, Seq: 9, Lane: 1, Side: api.Buy, Price: 300, Qty: 7}, api.ErrArg)
	for _, f := range fields() {
		for _, n := range numbers() {
			want := api.ErrArg
			if n == 0 {
				want = api.OK
			}
			wantCheck(t, f.set(api.Cmd{}, n), want)
		}
	}
	for kind := 1; kind <= 8; kind++ {
		wantCheck(t, api.Cmd{Kind: kind}, api.ErrArg)
		wantCheck(t, api.Cmd{Kind: kind, Seq: 1}, api.OK)
	}
}

// P6.1: a number too small does not make up for one too great.
func TestCheckTwice(t *testing.T) {
	for i, f := range fields() {
		for j, g := range fields() {
			if i != j {
				wantCheck(t, g.set(f.set(plain(), f.least-1), g.most+1), api.ErrArg)
				wantCheck(t, g.set(f.set(plain(), f.most+1), g.most+1), api.ErrArg)
			}
		}
	}
}

// P6.2: the account, and behind it the lane of the kinds that have one.
func TestKeys(t *testing.T) {
	wantKeys(t, plain(), account(3), lane(1))
	for _, c := range []struct {
		kind int
		want []api.Key
	}{
		{api.CmdNone, nil},
		{api.CmdDeposit, []api.Key{account(3)}},
		{api.CmdWithdraw, []api.Key{account(3)}},
		{api.CmdLimit, []api.Key{account(3), lane(1)}},
		{api.CmdIoc, []api.Key{account(3), lane(1)}},
		{api.CmdCancel, []api.Key{account(3), lane(1)}},
		{api.CmdCollect, []api.Key{account(3), lane(1)}},
		{api.CmdBalance, []api.Key{account(3)}},
		{api.CmdTop, []api.Key{account(3), lane(1)}},
	} {
		wantKeys(t, api.Cmd{Kind: c.kind, Client: 3, Lane: 1, Seq: 9, Asset: 2, Order: 4}, c.want...)
	}
	wantKeys(t, least(), account(0))
	wantKeys(t, most(), account(63), lane(5))
	wantKeys(t, api.Cmd{Kind: api.CmdTop, Seq: 1}, account(0), lane(0))
}

// P6.2: so it is for commands that may not be: one of kind CmdNone has no key, one of a kind that is none its account.
func TestKeysWrong(t *testing.T) {
	wantKeys(t, api.Cmd{})
	wantKeys(t, api.Cmd{Client: 1})
	wantKeys(t, api.Cmd{Client: 3, Seq: 9, Lane: 1, Side: api.Buy, Price: 300, Qty: 7})
	for _, kind := range numbers() {
		for _, id := range numbers() {
			c := api.Cmd{Kind: kind, Client: id, Lane: id}
			if kind == 0 {
				wantKeys(t, c)
			} else if hasLane(kind) {
				wantKeys(t, c, account(id), lane(id))
			} else {
				wantKeys(t, c, account(id))
			}
		}
	}
}

// R3: what Keys tells is new memory each time.
func TestKeysNew(t *testing.T) {
	for kind := 1; kind <= 8; kind++ {
		c := plain()
		c.Kind = kind
		first, second := command.Keys(c), command.Keys(c)
		want := slices.Clone(second)
		for i := range first {
			first[i] = lane(77)
		}
		if _ = append(first, lane(78)); !slices.Equal(second, want) {
			t.Errorf("Keys of kind %d: %v, want %v", kind, second, want)
		}
		wantKeys(t, c, want...)
	}
}

// P6.3: the chapter's examples.
func TestMeets(t *testing.T) {
	limit := plain()
	deposit := func(client int) api.Cmd { return api.Cmd{Kind: api.CmdDeposit, Client: client, Seq: 1, Qty: 5} }
	collect := func(client, lane int) api.Cmd {
		return api.Cmd{Kind: api.CmdCollect, Client: client, Seq: 1, Lane: lane}
	}
	wantMeets(t, limit, collect(5, 1), true)
	wantMeets(t, limit, deposit(3), true)
	wantMeets(t, limit, deposit(5), false)
	wantMeets(t, limit, collect(5, 2), false)
	wantMeets(t, limit, collect(3, 2), true)
	wantMeets(t, deposit(3), deposit(5), false)
	// An account is no lane, though its number may be the same.
	wantMeets(t, deposit(1), collect(5, 1), false)
	wantMeets(t, collect(1, 2), collect(2, 1), false)
	// The lane of a kind that has none as a key does not count.
	wantMeets(t, api.Cmd{Kind: api.CmdBalance, Client: 1, Seq: 1, Lane: 1}, collect(5, 1), false)
	wantMeets(t, api.Cmd{Kind: api.CmdWithdraw, Client: 1, Seq: 1, Lane: 1}, api.Cmd{Kind: api.CmdDeposit, Client: 2, Seq: 1, Lane: 1}, false)
}

// P6.3: so it is for all kinds, those that are none among them, and as Keys tells it.
func TestMeetsAll(t *testing.T) {
	for _, a := range crowded() {
		for _, b := range crowded() {
			want := a.Kind != 0 && b.Kind != 0 && (a.Client == b.Client || hasLane(a.Kind) && hasLane(b.Kind) && a.Lane == b.Lane)
			wantMeets(t, a, b, want)
			common := false
			for _, k := range command.Keys(a) {
				common = common || slices.Contains(command.Keys(b), k)
			}
			if common != want {
				t.Errorf("Keys(%+v) and Keys(%+v) have one in common: %t, want %t", a, b, common, want)
			}
		}
	}
}

// P6.4: by the kind alone, from CmdDeposit to CmdCollect.
func TestMoves(t *testing.T) {
	for kind, want := range []bool{false, true, true, true, true, true, true, false, false, false} {
		for _, c := range append(right(50), api.Cmd{Client: 64, Seq: -1}) {
			c.Kind = kind
			wantMoves(t, c, want)
		}
	}
	wantMoves(t, api.Cmd{Kind: api.CmdLimit}, true)
	wantMoves(t, api.Cmd{Kind: api.CmdCollect}, true)
	wantMoves(t, api.Cmd{Kind: api.CmdBalance}, false)
	wantMoves(t, api.Cmd{Kind: api.CmdTop}, false)
	for _, kind := range numbers() {
		wantMoves(t, api.Cmd{Kind: kind}, kind >= 1 && kind <= 6)
	}
}

// P6.5: thirty bytes, each number in its place, most significant byte first.
func TestWrite(t *testing.T) {
	c := api.Cmd{Kind: 7, Client: 62, Lane: 5, Asset: 6, Side: 2, Seq: 0x01020304050607, Price: 0x03121314151617, Qty: 0x02222324252627, Order: 0x31323334}
	wantWrite(t, c, "\x07\x3e\x05\x06\x02"+"\x01\x02\x03\x04\x05\x06\x07"+"\x03\x12\x13\x14\x15\x16\x17"+"\x02\x22\x23\x24\x25\x26\x27"+"\x31\x32\x33\x34", api.OK)
	wantWrite(t, plain(), "\x03\x03\x01\x00\x01"+"\x00\x00\x00\x00\x00\x00\x09"+"\x00\x00\x00\x00\x00\x01\x2c"+"\x00\x00\x00\x00\x00\x00\x07"+"\x00\x00\x00\x00", api.OK)
	wantWrite(t, api.Cmd{}, strings.Repeat("\x00", 30), api.OK)
	top := "\x04\x00\x00\x00\x00\x00\x00"
	wantWrite(t, most(), "\x08\x3f\x05\x07\x02"+top+top+top+"\x40\x00\x00\x00", api.OK)
	wantWrite(t, least(), "\x01\x00\x00\x00\x00"+"\x00\x00\x00\x00\x00\x00\x01"+strings.Repeat("\x00", 18), api.OK)
}

// P6.5: a number changes its own bytes and no others.
func TestWritePlaces(t *testing.T) {
	for _, c := range []api.Cmd{least(), plain(), most()} {
		s := written(t, c)
		for _, f := range fields() {
			for _, n := range append(numbers(), f.least, f.least+1, f.most-1, f.most) {
				if n >= f.least && n <= f.most {
					wantWrite(t, f.set(c, n), f.put(s, n), api.OK)
				}
			}
		}
	}
}

// P6.5: what Check does not let through isn't written, though it may fit into its bytes.
func TestWriteWrong(t *testing.T) {
	wantWrite(t, api.Cmd{Client: 1}, "", api.ErrArg)
	wantWrite(t, api.Cmd{Kind: api.CmdDeposit}, "", api.ErrArg)
	for _, f := range fields() {
		for _, n := range append(numbers(), f.least-1, f.most+1) {
			if n < f.least || n > f.most {
				for _, c := range []api.Cmd{least(), plain(), most()} {
					if c = f.set(c, n); c != (api.Cmd{}) {
						wantWrite(t, c, "", api.ErrArg)
					}
				}
			}
		}
	}
}

// P6.6: the command at an offset, and the offset after it.
func TestRead(t *testing.T) {
	s := written(t, plain())
	wantRead(t, s, 0, plain(), 30, api.OK)
	wantRead(t, s+"x", 0, plain(), 30, api.OK)
	wantRead(t, "abc"+s, 3, plain(), 33, api.OK)
	wantRead(t, s+written(t, most())+s, 30, most(), 60, api.OK)
	wantRead(t, strings.Repeat("\x00", 30), 0, api.Cmd{}, 30, api.OK)
	wantRead(t, strings.Repeat("\x00", 31), 1, api.Cmd{}, 31, api.OK)
	raw := "\x07\x3e\x05\x06\x02" + "\x01\x02\x03\x04\x05\x06\x07" + "\x03\x12\x13\x14\x15\x16\x17" + "\x02\x22\x23\x24\x25\x26\x27" + "\x31\x32\x33\x34"
	wantRead(t, raw, 0, api.Cmd{Kind: 7, Client: 62, Lane: 5, Asset: 6, Side: 2, Seq: 0x01020304050607, Price: 0x03121314151617, Qty: 0x02222324252627, Order: 0x31323334}, 30, api.OK)
}

// P6.6: offsets that are none, whatever the bytes are.
func TestReadWrongOffset(t *testing.T) {
	for _, s := range []string{"", "x", strings.Repeat("\x00", 29), written(t, plain()), written(t, plain()) + "xyz", strings.Repeat("\xff", 100)} {
		for _, at := range numbers() {
			if at < 0 || at > len(s) {
				wantNotRead(t, s, at, api.ErrArg)
			}
		}
		wantNotRead(t, s, len(s)+1, api.ErrArg)
		wantNotRead(t, s, len(s), api.ErrShort)
	}
}

// P6.6: fewer than thirty bytes, which come ahead of a command that may not be.
func TestReadShort(t *testing.T) {
	wantNotRead(t, "", 0, api.ErrShort)
	s := written(t, plain())
	for _, s := range []string{s, "\x09" + s[1:], strings.Repeat("\x00", 30), strings.Repeat("\xff", 30)} {
		for count := range 30 {
			wantNotRead(t, s[:count], 0, api.ErrShort)
			wantNotRead(t, "abcde"+s[:count], 5, api.ErrShort)
		}
		for at := 1; at <= 30; at++ {
			wantNotRead(t, s, at, api.ErrShort)
		}
	}
}

// P6.6: thirty bytes of a command that may not be: one number is enough.
func TestReadWrongForm(t *testing.T) {
	s := written(t, plain())
	wantNotRead(t, "\x09"+s[1:], 0, api.ErrForm)
	wantNotRead(t, "\x00"+s[1:], 0, api.ErrForm)
	wantNotRead(t, "\x00\x01"+strings.Repeat("\x00", 28), 0, api.ErrForm)
	wantNotRead(t, strings.Repeat("\xff", 30), 0, api.ErrForm)
	for _, c := range []api.Cmd{least(), plain(), most()} {
		s := written(t, c)
		for _, f := range fields() {
			for _, n := range append(numbers(), f.least-1, f.least, f.most, f.most+1) {
				if n < 0 || n >= 1<<(8*f.width) {
					continue
				}
				changed := f.put(s, n)
				if n >= f.least && n <= f.most {
					wantRead(t, "ab"+changed+"c", 2, f.set(c, n), 32, api.OK)
				} else {
					wantNotRead(t, changed, 0, api.ErrForm)
					wantNotRead(t, "ab"+changed+"c", 2, api.ErrForm)
				}
			}
		}
	}
}

// P6.7: what was written is read back, whatever stands around it.
func TestReadBack(t *testing.T) {
	for _, c := range right(500) {
		s := written(t, c)
		for _, before := range []string{"", "x", "\xff\xff\xff", strings.Repeat("\x00\xff", 150)} {
			for _, after := range []string{"", "\x00", strings.Repeat("\xff", 40)} {
				wantRead(t, before+s+after, len(before), c, len(before)+30, api.OK)
			}
		}
	}
}

// P6.7: what was read is written as the same bytes, and nothing is read but what Write tells.
func TestWrittenAgain(t *testing.T) {
	texts := []string{strings.Repeat("\x00", 30)}
	for _, c := range right(40) {
		s := written(t, c)
		for i := range s {
			for _, b := range []byte{0, 1, 2, 3, 4, 5, 6, 7, 8, 9, 63, 64, 127, 128, 255} {
				texts = append(texts, s[:i]+string([]byte{b})+s[i+1:])
			}
		}
	}
	read := 0
	for _, s := range texts {
		c, next, err := command.Read(s, 0)
		if err == api.OK {
			read++
			wantWrite(t, c, s, api.OK)
			if next != 30 {
				t.Errorf("Read(%q) = %d, want 30", s, next)
			}
		} else {
			wantNotRead(t, s, 0, api.ErrForm)
		}
	}
	if read < 1000 || read == len(texts) {
		t.Errorf("%d of %d texts were read", read, len(texts))
	}
}

// P6.7: commands that differ are written differently.
func TestWrittenApart(t *testing.T) {
	seen := map[string]api.Cmd{}
	for _, c := range right(500) {
		s := written(t, c)
		if old, ok := seen[s]; ok && old != c {
			t.Errorf("%+v and %+v are both %q", old, c, s)
		}
		seen[s] = c
	}
}

// P6.8: two commands of one client interfere, and two with one lane as a key; in either order; the zero command with none.
func TestMeetsBoth(t *testing.T) {
	all := right(200)
	for _, a := range all {
		wantMeets(t, a, a, a != (api.Cmd{}))
		wantMeets(t, a, api.Cmd{}, false)
		wantMeets(t, api.Cmd{}, a, false)
		for _, b := range all {
			if a == (api.Cmd{}) || b == (api.Cmd{}) {
				continue
			}
			sameLane := hasLane(a.Kind) && hasLane(b.Kind) && a.Lane == b.Lane
			wantMeets(t, a, b, a.Client == b.Client || sameLane)
			wantMeets(t, b, a, a.Client == b.Client || sameLane)
		}
	}
	for _, a := range crowded() {
		wantMeets(t, a, api.Cmd{}, false)
		wantMeets(t, api.Cmd{}, a, false)
	}
}

// R1: no call panics, whatever it is given.
func TestNoPanic(t *testing.T) {
	for _, f := range fields() {
		for _, n := range numbers() {
			for _, c := range []api.Cmd{{}, plain(), most()} {
				c = f.set(c, n)
				command.Check(c)
				command.Keys(c)
				command.Moves(c)
				command.Write(c)
				command.Meets(c, plain())
				command.Meets(plain(), c)
			}
		}
	}
	for _, s := range []string{"", "x", strings.Repeat("\xff", 29), strings.Repeat("\xff", 30), strings.Repeat("\x01", 64)} {
		for _, at := range numbers() {
			command.Read(s, at)
		}
	}
}
