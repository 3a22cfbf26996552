package lrec_test

import (
	"encoding/binary"
	"hash/crc32"
	"math"
	"reflect"
	"slices"
	"strings"
	"testing"
	"unsafe"

	"couplet/api"
	"couplet/lrec"
)

const stamp = 1 << 40 // the greatest timestamp, and the greatest LSN

var (
	longKey = strings.Repeat("k", 16)
	longVal = strings.Repeat("v", 24)
)

// put makes an operation that puts a value to a key.
func put(key string, lsn uint64, val string) api.Rec {
	return api.Rec{Key: key, Lsn: lsn, Val: val}
}

// del makes an operation that deletes a key.
func del(key string, lsn uint64) api.Rec {
	return api.Rec{Key: key, Lsn: lsn, Del: true}
}

// entry makes one of these operations.
func entry(ts, first uint64, ops ...api.Rec) api.Entry {
	return api.Entry{Ts: ts, First: first, Ops: ops}
}

// row makes an entry of n operations on the keys a, b, ..., each third one a deletion.
func row(ts, first uint64, n int) api.Entry {
	e := entry(ts, first)
	for i := range n {
		key := string(rune('a' + i))
		r := put(key, first+uint64(i), key+key)
		if i%3 == 2 {
			r = del(key, first+uint64(i))
		}
		e.Ops = append(e.Ops, r)
	}
	return e
}

// greatest makes the entry with the most bytes.
func greatest() api.Entry {
	e := row(stamp, stamp-5, 6)
	for i := range e.Ops {
		e.Ops[i] = put(longKey[1:]+string(rune('a'+i)), e.Ops[i].Lsn, longVal)
	}
	return e
}

// fine are entries that may be.
func fine() []api.Entry {
	return []api.Entry{
		entry(1, 2, put("a", 2, "b")),
		entry(1, 1, put("a", 1, "")),
		entry(7, 9, del("a", 9)),
		entry(300, 128, put("a", 128, "x"), del("b", 129)),
		entry(stamp, stamp, put("z", stamp, "last")),
		entry(5, stamp-1, put("z", stamp-1, ""), put("a", stamp, "")),
		entry(5, 1, put("b", 1, "keys need not rise"), put("a", 2, "b"), del("ab", 3)),
		entry(9, 4, put("\x00", 4, "\x00\x00"), put("\xff\xfe", 5, "\x80"), del("\x00\x00", 6)),
		entry(9, 4, put(longKey, 4, longVal), del(longKey[1:], 5)),
		row(3, 1, 6),
		row(1<<20, 1<<30, 5),
		greatest(),
	}
}

// body tells what is sealed of an entry, by another hand than the program's.
func body(e api.Entry) string {
	b := binary.AppendUvarint(nil, e.Ts)
	b = binary.AppendUvarint(b, e.First)
	b = binary.AppendUvarint(b, uint64(len(e.Ops)))
	for _, r := range e.Ops {
		b = binary.AppendUvarint(b, uint64(len(r.Key)))
		b = append(b, r.Key...)
		if r.Del {
			b = append(b, 1)
		} else {
			b = append(b, 0)
		}
		b = binary.AppendUvarint(b, uint64(len(r.Val)))
		b = append(b, r.Val...)
	}
	return string(b)
}

// counted tells s behind the number of its bytes.
func counted(s string) string {
	return string(binary.AppendUvarint(nil, uint64(len(s)))) + s
}

// closed tells s, sealed, behind the number of its bytes.
func closed(s string) string {
	return counted(string(binary.LittleEndian.AppendUint32([]byte(s), crc32.ChecksumIEEE([]byte(s)))))
}

// laid tells an entry's bytes.
func laid(e api.Entry) string {
	return closed(body(e))
}

// verdict tells what Check must answer: all that is wrong is looked for, and the first of the errors taken.
func verdict(e api.Entry) api.Errno {
	long, odd := len(e.Ops) > 6, len(e.Ops) < 1
	for _, n := range []uint64{e.Ts, e.First} {
		odd = odd || n == 0 || n > stamp
	}
	for i, r := range e.Ops {
		long = long || len(r.Key) >= 17 || len(r.Val) >= 25
		odd = odd || len(r.Key) == 0 || r.Del && len(r.Val) > 0
		odd = odd || r.Lsn > stamp || r.Lsn < e.First || r.Lsn-e.First != uint64(i)
		for _, other := range e.Ops[:i] {
			odd = odd || other.Key == r.Key
		}
	}
	if long {
		return api.ErrLong
	}
	if odd {
		return api.ErrArg
	}
	return api.OK
}

// taker takes what a row of bytes begins with, less strictly than it was laid.
type taker struct{ s string }

func (k *taker) num() uint64 {
	n, size := binary.Uvarint([]byte(k.s))
	k.s = k.s[max(size, 0):]
	return n
}

func (k *taker) text() string {
	n := min(k.num(), uint64(len(k.s)))
	text := k.s[:n]
	k.s = k.s[n:]
	return text
}

// begins tells the entry with whose bytes s begins: something is taken, and is it, if it may be, and would be laid just so.
func begins(s string) (api.Entry, int, bool) {
	k := &taker{s}
	k = &taker{k.text()}
	e := entry(k.num(), k.num())
	for i := range min(k.num(), 6) {
		key, odd, val := k.text(), k.num(), k.text()
		e.Ops = append(e.Ops, api.Rec{Key: key, Lsn: e.First + i, Del: odd == 1, Val: val})
	}
	is := laid(e)
	if verdict(e) != api.OK || !strings.HasPrefix(s, is) {
		return api.Entry{}, 0, false
	}
	return e, len(is), true
}

// holdDecode holds what is decoded of s against the words, and what is taken against what is laid.
func holdDecode(t *testing.T, s string) {
	t.Helper()
	want, size, is := begins(s)
	if !is {
		wantNone(t, s)
		return
	}
	wantDecoded(t, s, want, size)
	if again, wrong := lrec.Encode(want); wrong != api.OK || again != s[:size] {
		t.Fatalf("%x is taken, and laid again as %x, %d", s[:size], again, wrong)
	}
}

// wantDecoded holds that s begins with just that entry's bytes.
func wantDecoded(t *testing.T, s string, want api.Entry, size int) {
	t.Helper()
	if e, n, wrong := lrec.Decode(s); !reflect.DeepEqual(e, want) || n != size || wrong != api.OK {
		t.Fatalf("Decode(%x) = %v, %d, %d; want %v, %d", s, e, n, wrong, want, size)
	}
}

// wantNone holds that s begins with no entry's bytes.
func wantNone(t *testing.T, s string) {
	t.Helper()
	if e, n, wrong := lrec.Decode(s); !reflect.DeepEqual(e, api.Entry{}) || n != 0 || wrong != api.ErrForm {
		t.Fatalf("Decode(%x) = %v, %d, %d; want ErrForm alone", s, e, n, wrong)
	}
}

// wantCheck holds what speaks against an entry, and that what may not be has no bytes.
func wantCheck(t *testing.T, e api.Entry, want api.Errno) {
	t.Helper()
	as := e
	as.Ops = slices.Clone(e.Ops)
	if got := lrec.Check(e); got != want {
		t.Fatalf("Check(%v) = %d, want %d", e, got, want)
	}
	bytes := ""
	if want == api.OK {
		bytes = laid(e)
	}
	if s, wrong := lrec.Encode(e); s != bytes || wrong != want {
		t.Fatalf("Encode(%v) = %x, %d; want %x, %d", e, s, wrong, bytes, want)
	}
	if !reflect.DeepEqual(e, as) {
		t.Fatalf("%v has changed to %v", as, e)
	}
}

// TestMay: P6.1. The LSN counts for nothing.
func TestMay(t *testing.T) {
	for _, c := range []struct {
		what string
		r    api.Rec
		want api.Errno
	}{
		{"a key alone", put("a", 0, ""), api.OK},
		{"a value", put("a", 0, "b"), api.OK},
		{"all bytes", put("\x00\xff", 0, "\x80\x00"), api.OK},
		{"the longest", put(longKey, 0, longVal), api.OK},
		{"a deletion", del("a", 0), api.OK},
		{"the longest deletion", del(longKey, 0), api.OK},
		{"nothing", api.Rec{}, api.ErrArg},
		{"no key", put("", 0, "b"), api.ErrArg},
		{"a deletion of no key", del("", 0), api.ErrArg},
		{"a deletion with a value", api.Rec{Key: "a", Del: true, Val: "b"}, api.ErrArg},
		{"a deletion with the longest value", api.Rec{Key: "a", Del: true, Val: longVal}, api.ErrArg},
		{"17 bytes of a key", put(longKey+"k", 0, "b"), api.ErrLong},
		{"17 bytes that are fewer runes", put(strings.Repeat("é", 8)+"e", 0, ""), api.ErrLong},
		{"16 bytes that are fewer runes", put(strings.Repeat("é", 8), 0, ""), api.OK},
		{"25 bytes of a value", put("a", 0, longVal+"v"), api.ErrLong},
		{"both", put(longKey+"k", 0, longVal+"v"), api.ErrLong},
		{"very many bytes", put(strings.Repeat("k", 1<<20), 0, ""), api.ErrLong},
		{"a deletion of 17 bytes", del(longKey+"k", 0), api.ErrLong},
		{"a value too long of no key", put("", 0, longVal+"v"), api.ErrLong},
		{"a deletion with a value too long", api.Rec{Key: "a", Del: true, Val: longVal + "v"}, api.ErrLong},
		{"a deletion with a value, of 17 bytes", api.Rec{Key: longKey + "k", Del: true, Val: "b"}, api.ErrLong},
	} {
		for _, lsn := range []uint64{0, 1, stamp, stamp + 1, math.MaxUint64} {
			c.r.Lsn = lsn
			if got := lrec.May(c.r); got != c.want {
				t.Errorf("May of %s = %d, want %d", c.what, got, c.want)
			}
		}
	}
}

// TestMayOfLengths: P6.1. All lengths of both.
func TestMayOfLengths(t *testing.T) {
	for key := range 20 {
		for val := range 28 {
			for _, del := range []bool{false, true} {
				want := api.OK
				switch {
				case key > 16, val > 24:
					want = api.ErrLong
				case key == 0, del && val > 0:
					want = api.ErrArg
				}
				r := api.Rec{Key: strings.Repeat("k", key), Del: del, Val: strings.Repeat("v", val)}
				if got := lrec.May(r); got != want {
					t.Errorf("May of %d bytes, %v, %d bytes = %d, want %d", key, del, val, got, want)
				}
			}
		}
	}
}

// TestCheck: P6.1.
func TestCheck(t *testing.T) {
	for _, e := range fine() {
		wantCheck(t, e, api.OK)
	}
	for _, e := range []api.Entry{
		{},
		entry(1, 1),
		{Ts: 1, First: 1, Ops: []api.Rec{}},
		entry(0, 1, put("a", 1, "")),
		entry(stamp+1, 1, put("a", 1, "")),
		entry(math.MaxUint64, 1, put("a", 1, "")),
		entry(1, 0, put("a", 0, "")),
		entry(1, 0, put("a", 1, "")),
		entry(1, 1, put("a", 0, "")),
		entry(1, 1, put("a", 2, "")), // the chapter's
		entry(1, 2, put("a", 1, "")),
		entry(1, 1, put("a", 1, ""), put("b", 1, "")),
		entry(1, 1, put("a", 1, ""), put("b", 3, "")),
		entry(1, 1, put("a", 2, ""), put("b", 1, "")),
		entry(1, 2, put("a", 2, ""), put("b", 2+1<<63, "")),
		entry(1, 1, put("a", 1, ""), put("a", 2, "")), // the chapter's
		entry(1, 1, put("a", 1, "x"), put("b", 2, ""), del("a", 3)),
		entry(1, stamp+1, put("a", stamp+1, "")),
		entry(1, stamp, put("a", stamp, ""), put("b", stamp+1, "")),
		entry(1, stamp-1, put("a", stamp-1, ""), put("b", stamp, ""), put("c", stamp+1, "")),
		entry(1, math.MaxUint64, put("a", math.MaxUint64, ""), put("b", 0, "")), // wrapped round
		entry(1, 1, put("", 1, "")),
		entry(1, 1, put("a", 1, ""), put("", 2, "")),
		entry(1, 1, api.Rec{Key: "a", Lsn: 1, Del: true, Val: "b"}),
		entry(1, 1, api.Rec{}),
	} {
		wantCheck(t, e, api.ErrArg)
	}
}

// TestCheckLong: P6.1. What is too long is told ahead of all else.
func TestCheckLong(t *testing.T) {
	for _, e := range []api.Entry{
		row(1, 1, 7), // the chapter's
		row(0, 0, 7),
		row(stamp+1, 1, 8),
		row(1, stamp, 7),
		{Ops: make([]api.Rec, 7)},
		{Ts: 1, First: 1, Ops: make([]api.Rec, 1<<16)},
		entry(1, 1, put(longKey+"k", 1, "")),
		entry(1, 1, put("a", 1, longVal+"v")),
		entry(1, 1, put("", 1, longVal+"v")),
		entry(1, 1, put("", 1, ""), put(longKey+"k", 2, "")),
		entry(0, 1, put(longKey+"k", 1, "")),
		entry(1, 0, put("a", 0, longVal+"v")),
		entry(1, stamp+1, put("a", 7, longVal+"v")),
		entry(1, 1, put("a", 1, ""), put("a", 2, longVal+"v")),
		entry(1, 1, put(longKey+"k", 1, ""), put(longKey+"k", 2, "")),
		entry(1, 1, put(longKey+"k", 5, "")),
		entry(1, 1, api.Rec{Key: "a", Lsn: 1, Del: true, Val: longVal + "v"}),
	} {
		wantCheck(t, e, api.ErrLong)
	}
}

// TestCheckOfEach: P6.1. Each of the operations counts, wherever it stands.
func TestCheckOfEach(t *testing.T) {
	for n := 1; n <= 6; n++ {
		for at := range n {
			for _, c := range []struct {
				r    api.Rec
				want api.Errno
			}{
				{put("x", 0, "y"), api.OK},
				{del("x", 0), api.OK},
				{put(longKey, 0, longVal), api.OK},
				{put("", 0, ""), api.ErrArg},
				{api.Rec{Key: "x", Del: true, Val: "y"}, api.ErrArg},
				{put("x", 1, ""), api.ErrArg}, // an LSN further than it must be
				{put("x", math.MaxUint64, ""), api.ErrArg},
				{put(longKey+"k", 0, ""), api.ErrLong},
				{put("x", 0, longVal+"v"), api.ErrLong},
				{put("", 1, longVal+"v"), api.ErrLong},
			} {
				e := row(4, 9, n)
				c.r.Lsn += e.Ops[at].Lsn
				e.Ops[at] = c.r
				wantCheck(t, e, c.want)
			}
			for other := range n {
				if other != at {
					e := row(4, 9, n)
					e.Ops[at].Key = e.Ops[other].Key
					wantCheck(t, e, api.ErrArg)
				}
			}
		}
	}
}

// chooser makes choices from a short rule.
type chooser uint64

func (c *chooser) below(n int) int {
	*c = *c*6364136223846793005 + 1442695040888963407
	return int(uint64(*c) >> 33 % uint64(n))
}

// num chooses the first number mostly, else one of the others.
func (c *chooser) num(most uint64, others ...uint64) uint64 {
	if c.below(12) > 0 {
		return most
	}
	return others[c.below(len(others))]
}

// entry chooses one: it may be, or not.
func (c *chooser) entry() api.Entry {
	e := entry(
		c.num(uint64(1+c.below(1<<30)), 0, 1, stamp, stamp+1, math.MaxUint64),
		c.num(uint64(1+c.below(1<<30)), 0, 1, stamp-5, stamp-2, stamp, stamp+1, math.MaxUint64),
	)
	for i := range c.num(uint64(1+c.below(6)), 0, 6, 7, 8) {
		key := strings.Repeat(string(rune('a'+c.below(26))), int(c.num(uint64(1+c.below(16)), 0, 1, 16, 17)))
		r := put(key, c.num(e.First+i, 0, e.First, e.First+i+1, stamp), strings.Repeat("\xe9", c.below(int(c.num(25, 27)))))
		if c.below(4) == 0 {
			r.Del, r.Val = true, r.Val[:c.num(0, uint64(len(r.Val)))]
		}
		e.Ops = append(e.Ops, r)
	}
	return e
}

// TestOfMany: P6.1 to P6.3. Entries of all kinds, held against the words, each behind the other's bytes, too.
func TestOfMany(t *testing.T) {
	c := chooser(1)
	came := map[api.Errno]int{}
	behind := ""
	for range 20000 {
		e := c.entry()
		want := verdict(e)
		came[want]++
		wantCheck(t, e, want)
		if want == api.OK {
			s := laid(e)
			wantDecoded(t, s+behind, e, len(s))
			behind = s
		} else {
			holdDecode(t, laid(e)+behind)
		}
	}
	if came[api.OK] < 3000 || came[api.ErrArg] < 3000 || came[api.ErrLong] < 1000 {
		t.Errorf("too few of a kind: %v", came)
	}
}

// TestEncode: P6.2. Bytes that are written out by hand.
func TestEncode(t *testing.T) {
	for _, c := range []struct {
		e    api.Entry
		want string
	}{
		{entry(1, 2, put("a", 2, "b")), "\x0c\x01\x02\x01\x01a\x00\x01b\x98\x95\x16\xf1"},
		{entry(1, 1, put("a", 1, "")), "\x0b\x01\x01\x01\x01a\x00\x00\xad\xe8\x8e\x3c"},
		{entry(7, 9, del("a", 9)), "\x0b\x07\x09\x01\x01a\x01\x00\xbb\x6e\x16\xaa"},
		{entry(300, 128, put("a", 128, "x"), del("b", 129)), "\x12\xac\x02\x80\x01\x02\x01a\x00\x01x\x01b\x01\x00\x21\x2f\x89\x93"},
		{entry(stamp, stamp, put("z", stamp, "")), "\x15" + strings.Repeat("\x80\x80\x80\x80\x80\x20", 2) + "\x01\x01z\x00\x00\x8b\xc3\xbb\xad"},
	} {
		if s, wrong := lrec.Encode(c.e); s != c.want || wrong != api.OK {
			t.Errorf("Encode(%v) = %x, %d; want %x", c.e, s, wrong, c.want)
		}
		wantDecoded(t, c.want, c.e, len(c.want))
	}
	s, wrong := lrec.Encode(greatest())
	if len(s) != 277 || wrong != api.OK || !strings.HasPrefix(s, "\x93\x02\x80\x80\x80\x80\x80\x20\xfb\xff\xff\xff\xff\x1f\x06\x10kkkkkkkkkkkkkkka\x00\x18vvvv") {
		t.Errorf("Encode of the greatest: %x, %d", s, wrong)
	}
}

// TestDecode: P6.2, P6.3. An entry comes back, whatever stands behind its bytes.
func TestDecode(t *testing.T) {
	tails := []string{"", "\x00", "\x0c", "\xff", "a", strings.Repeat("\x80", 300), laid(row(1, 1, 1)), strings.Repeat("x", 1<<16)}
	for _, e := range fine() {
		s := laid(e)
		for _, tail := range tails {
			wantDecoded(t, s+tail, e, len(s))
		}
		for _, tail := range fine() {
			wantDecoded(t, s+laid(tail), e, len(s))
		}
	}
}

// TestDecodeOfNone: P6.2.
func TestDecodeOfNone(t *testing.T) {
	is := body(entry(1, 2, put("a", 2, "b")))
	whole := closed(is)
	for _, s := range []string{
		"", "\x00", // the chapter's
		"\x00\x00\x00\x00\x00", "\x04\x00\x00\x00\x00", // nothing, sealed, is none
		"\x01", "\x01a", "\x03abc", "\x80", "\x80\x00", "\xff\xff\xff\xff\xff\xff\xff\xff\xff\x01", "\xff\xff\xff\xff\xff\xff\xff\xff\xff\x02",
		"\xff\xff\xff\xff\x07abc", "\x80\x80\x80\x80\x80\x80\x80\x80\x80\x01" + whole,
		is, whole[1:], // no number ahead
		"\x8c\x00" + whole[1:],                       // a second way to write it
		"\x0b" + whole[1:], "\x0d" + whole[1:] + "a", // another number than theirs
		"\x08" + is, counted(is), counted(is + "\x00\x00\x00\x00"), // no sum, or another one
		counted(is + "\xf1\x16\x95\x98"), counted("\x98\x95\x16\xf1" + is), // the sum turned about, or ahead
		"\x0c" + is + "\x4b\xad\x09\x94", // the sum of all
		"a" + whole, "\x00" + whole,      // not at the beginning
		strings.Repeat("\xff", 1<<16), strings.Repeat("\x00", 1<<16),
	} {
		wantNone(t, s)
	}
}

// TestDecodeOfSealed: P6.2. What is sealed rightly is none, if it is no entry's.
func TestDecodeOfSealed(t *testing.T) {
	holdDecode(t, closed("\x01\x02\x01\x01a\x00\x01b"))
	for _, s := range []string{
		"", "\x01", "\x01\x02", "\x01\x02\x01", "\x01\x02\x01\x01", "\x01\x02\x01\x01a", "\x01\x02\x01\x01a\x00", "\x01\x02\x01\x01a\x00\x01", // cut off
		"\x01\x02\x01\x01a\x00\x01b\x00", "\x01\x02\x01\x01a\x00\x01bc", // more
		"\x01\x02\x00", "\x01\x02\x00\x01a\x00\x01b", // no operations
		"\x01\x02\x02\x01a\x00\x01b",                               // fewer than it says
		"\x01\x02\x01\x01a\x00\x01b\x01b\x00\x00",                  // more than it says
		"\x00\x02\x01\x01a\x00\x01b", "\x01\x00\x01\x01a\x00\x01b", // 0 is no stamp
		"\x81\x80\x80\x80\x80\x20\x02\x01\x01a\x00\x01b", "\x01\x81\x80\x80\x80\x80\x20\x01\x01a\x00\x01b", // above the greatest stamp
		"\x01\x80\x80\x80\x80\x80\x20\x02\x01a\x00\x01b\x01b\x00\x00",                 // the second one's LSN is
		"\x01\xff\xff\xff\xff\xff\xff\xff\xff\xff\x01\x02\x01a\x00\x01b\x01b\x00\x00", // LSNs that wrap round
		"\xff\xff\xff\xff\xff\xff\xff\xff\xff\x01\x01\x01\x01a\x00\x01b",
		"\x01\x02\x01\x00\x00\x01b",                                                                       // no key
		"\x01\x02\x01\x01a\x01\x01b",                                                                      // a deletion with a value
		"\x01\x02\x01\x01a\x02\x00", "\x01\x02\x01\x01a\x80\x01\x00", "\x01\x02\x01\x01a\x81\x80\x04\x00", // neither 0 nor 1
		"\x01\x02\x02\x01a\x00\x01b\x01a\x01\x00",                                               // one key twice
		"\x01\x02\x01\x11" + longKey + "k\x00\x00", "\x01\x02\x01\x01a\x00\x19" + longVal + "v", // too long
		"\x81\x00\x02\x01\x01a\x00\x01b", "\x01\x82\x00\x01\x01a\x00\x01b", "\x01\x02\x81\x00\x01a\x00\x01b", // a second way to write it
		"\x01\x02\x01\x81\x00a\x00\x01b", "\x01\x02\x01\x01a\x80\x00\x01b", "\x01\x02\x01\x01a\x00\x81\x00b",
		"\x01\x02\xff\xff\xff\xff\xff\xff\xff\xff\xff\x01\x01a\x00\x01b", "\x01\x02\x80\x80\x80\x80\x04" + strings.Repeat("\x01a\x00\x00", 99), // so many that none could read them
		"\x01\x02\x01\xff\xff\xff\xff\xff\xff\xff\xff\xff\x01a\x00\x01b", "\x01\x02\x01\x01a\x00\x80\x80\x80\x80\x80\x80\x80\x80\x80\x01b",
		body(row(1, 1, 7)), body(row(1, 1, 9)), body(row(1, stamp-1, 3)), body(row(0, 1, 2)), body(row(1, 0, 2)),
		body(greatest()) + "\x00",
	} {
		wantNone(t, closed(s))
		wantNone(t, closed(s)+closed(body(row(1, 1, 1))))
	}
}

// TestCutOff: P6.2, P6.3. No entry's bytes begin with another one's.
func TestCutOff(t *testing.T) {
	for _, e := range fine() {
		s := laid(e)
		for i := range s {
			wantNone(t, s[:i])
		}
	}
}

// TestSpoilt: P6.2. Bytes of which one is another are none.
func TestSpoilt(t *testing.T) {
	for _, e := range fine() {
		s := laid(e)
		for i := range s {
			for other := 1; other < 256; other++ {
				b := []byte(s)
				b[i] ^= byte(other)
				wantNone(t, string(b)+s)
			}
		}
	}
}

// TestTakenAsLaid: P6.3. Of what is sealed rightly just that is taken which would be laid so.
func TestTakenAsLaid(t *testing.T) {
	for _, e := range fine() {
		s := body(e)
		for i := range len(s) + 1 {
			for x := range 256 {
				holdDecode(t, closed(s[:i]+string([]byte{byte(x)})+s[min(i+1, len(s)):]))
			}
			for _, x := range []string{"\x00", "\x01", "\x80", "\x81", "a"} {
				holdDecode(t, closed(s[:i]+x+s[i:]))
			}
			holdDecode(t, closed(s[:i]))
			holdDecode(t, closed(s[:i]+s[min(i+1, len(s)):]))
			holdDecode(t, closed(s[i:]))
		}
	}
}

// TestShort: P6.3. All that is short, sealed rightly.
func TestShort(t *testing.T) {
	digits := []byte{0, 1, 2, 'a', 0x80}
	var all func(s string, more int)
	all = func(s string, more int) {
		holdDecode(t, closed(s))
		if more == 0 {
			return
		}
		for _, x := range digits {
			all(s+string([]byte{x}), more-1)
		}
	}
	all("", 7)
	all("\x01\x01\x02\x01a", 6)
}

// TestNoMoreThanOne: P6.3. One entry behind the other, all come back, and where each ends is told.
func TestNoMoreThanOne(t *testing.T) {
	s := ""
	for _, e := range fine() {
		s += laid(e)
	}
	for _, e := range fine() {
		n := len(laid(e))
		wantDecoded(t, s, e, n)
		s = s[n:]
	}
	wantNone(t, s)
}

// TestNew: R5. What is answered shares no memory with what was handed in.
func TestNew(t *testing.T) {
	want := entry(5, 7, put("key", 7, "value"), del("other", 8))
	b := []byte(laid(want))
	e, _, wrong := lrec.Decode(unsafe.String(&b[0], len(b)))
	clear(b)
	if wrong != api.OK || !reflect.DeepEqual(e, want) {
		t.Errorf("%v, %d: changed with what was handed in", e, wrong)
	}

	key, val := []byte("key"), []byte("value")
	s, wrong := lrec.Encode(entry(5, 7, put(unsafe.String(&key[0], 3), 7, unsafe.String(&val[0], 5)), del("other", 8)))
	clear(key)
	clear(val)
	if wrong != api.OK || s != laid(want) {
		t.Errorf("%x, %d: changed with what was handed in", s, wrong)
	}
}

// FuzzDecode: P6.2, P6.3.
func FuzzDecode(f *testing.F) {
	f.Add("")
	f.Add("\x00")
	for _, e := range fine() {
		f.Add(laid(e))
		f.Add(body(e))
	}
	f.Fuzz(func(t *testing.T, s string) {
		holdDecode(t, s)
		holdDecode(t, closed(s))
		holdDecode(t, closed(s)+s)
	})
}
