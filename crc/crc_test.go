package crc_test

import (
	"hash/crc32"
	"strings"
	"testing"
	"unsafe"

	"couplet/crc"
)

// sums are told with the bytes of which they are: the chapter's, and others that are known.
var sums = []struct {
	s    string
	want uint32
}{
	{"", 0},
	{"123456789", 0xcbf43926},
	{"a", 0xe8b7be43},
	{"abc", 0x352441c2},
	{"\x00", 0xd202ef8d},
	{"\xff", 0xff000000},
	{"\x00\x00\x00\x00", 0x2144df1c},
	{"\xff\xff\xff\xff", 0xffffffff},
	{strings.Repeat("\x00", 32), 0x190a55ad},
	{strings.Repeat("\xff", 32), 0xff6cab0b},
	{"The quick brown fox jumps over the lazy dog", 0x414fa339},
}

// mixed tells n bytes of all kinds, from a short rule.
func mixed(n int) string {
	b := make([]byte, n)
	x := uint32(n)
	for i := range b {
		x = x*1664525 + 1013904223
		b[i] = byte(x >> 24)
	}
	return string(b)
}

// many are bytes of many kinds and lengths.
func many() []string {
	l := []string{"ab", "\x80", "é", "\xff\xfe", strings.Repeat("a", 4096), mixed(100000)}
	for _, c := range sums {
		l = append(l, c.s)
	}
	for n := range 300 {
		l = append(l, mixed(n))
	}
	return l
}

// sealed tells s and its sum's bytes, reckoned by another hand than the program's.
func sealed(s string) string {
	sum := crc32.ChecksumIEEE([]byte(s))
	b := []byte(s)
	for range 4 {
		b = append(b, byte(sum%256))
		sum /= 256
	}
	return string(b)
}

// turned tells s with the bits of what turned, the lowest one at place from of the row.
func turned(s string, from int, what uint32) string {
	b := []byte(s)
	for i := range 32 {
		if what>>i&1 == 1 {
			b[(from+i)/8] ^= 1 << ((from + i) % 8)
		}
	}
	return string(b)
}

// wantNone holds that s is not sealed.
func wantNone(t *testing.T, s string) {
	t.Helper()
	if got, is := crc.Open(s); is || got != "" {
		t.Fatalf("Open(%x) = %q, %v; want none", s, got, is)
	}
}

// TestSum: P2.1.
func TestSum(t *testing.T) {
	for _, c := range sums {
		if got := crc.Sum(c.s); got != c.want {
			t.Errorf("Sum(%q) = %08x, want %08x", c.s, got, c.want)
		}
	}
}

// TestSumOfMany: P2.1. The sum is the one that the standards have.
func TestSumOfMany(t *testing.T) {
	for a := range 256 {
		for b := range 256 {
			s := string([]byte{byte(a), byte(b)})
			if got, want := crc.Sum(s), crc32.ChecksumIEEE([]byte(s)); got != want {
				t.Fatalf("Sum(%x) = %08x, want %08x", s, got, want)
			}
		}
	}
	for _, s := range many() {
		if got, want := crc.Sum(s), crc32.ChecksumIEEE([]byte(s)); got != want {
			t.Fatalf("Sum of %d bytes = %08x, want %08x", len(s), got, want)
		}
	}
}

// TestSeal: P2.1. The sum's lowest byte is the first one.
func TestSeal(t *testing.T) {
	for _, c := range []struct{ s, want string }{
		{"", "\x00\x00\x00\x00"},
		{"123456789", "123456789\x26\x39\xf4\xcb"},
		{"a", "a\x43\xbe\xb7\xe8"},
		{"\xff", "\xff\x00\x00\x00\xff"},
		{"\x00", "\x00\x8d\xef\x02\xd2"},
	} {
		if got := crc.Seal(c.s); got != c.want {
			t.Errorf("Seal(%q) = %x, want %x", c.s, got, c.want)
		}
	}
	for _, s := range many() {
		if got := crc.Seal(s); got != sealed(s) {
			t.Fatalf("Seal of %d bytes: wrong", len(s))
		}
	}
}

// TestOpen: P2.2.
func TestOpen(t *testing.T) {
	for _, c := range []struct{ s, want string }{
		{"\x00\x00\x00\x00", ""},
		{"a\x43\xbe\xb7\xe8", "a"},
		{"123456789\x26\x39\xf4\xcb", "123456789"},
		{"\xff\x00\x00\x00\xff", "\xff"},
		{"\xff\xff\xff\xff\xff\xff\xff\xff", "\xff\xff\xff\xff"},
	} {
		if got, is := crc.Open(c.s); got != c.want || !is {
			t.Errorf("Open(%x) = %q, %v", c.s, got, is)
		}
	}
	for _, s := range many() {
		if got, is := crc.Open(sealed(s)); got != s || !is {
			t.Fatalf("Open of %d sealed bytes: %d bytes, %v", len(s), len(got), is)
		}
	}
}

// TestOpenOfNone: P2.2.
func TestOpenOfNone(t *testing.T) {
	for _, s := range []string{
		"", "a", "ab", "abc", "\x00", "\x00\x00", "\x00\x00\x00", // too few for a sum
		"abcd", "\xff\xff\xff\xff", "\x00\x00\x00\x00\x00", "\x01\x00\x00\x00", "\x00\x00\x00\x01", // another sum
		"a\xe8\xb7\xbe\x43", "123456789\xcb\xf4\x39\x26", // the highest byte first
		"\xe8\xb7\xbe\x43a", "\x43\xbe\xb7\xe8a", // the sum ahead
		"a\xbc\x41\x48\x17",                                           // the bits not turned in the end
		"a", "a\x43\xbe\xb7", "\x43\xbe\xb7\xe8", "b\x43\xbe\xb7\xe8", // a part of it, or another one
	} {
		wantNone(t, s)
	}
	for n := range 60 {
		s := mixed(n)
		all := sealed(s)
		for i := range all {
			if short := all[:i]; short != sealed(short[:max(0, i-4)]) {
				wantNone(t, short)
			}
		}
		wantNone(t, all+"a")
		wantNone(t, all[:len(s)]+strings.Repeat("x", 4))
	}
}

// TestBack: P2.3. What was sealed is opened; what was sealed more than once, seal by seal.
func TestBack(t *testing.T) {
	for _, s := range many() {
		twice := crc.Seal(crc.Seal(s))
		once, is := crc.Open(twice)
		if !is || once != crc.Seal(s) {
			t.Fatalf("%d bytes, sealed twice: %d bytes, %v", len(s), len(once), is)
		}
		if got, is := crc.Open(once); !is || got != s {
			t.Fatalf("%d bytes, sealed: %d bytes, %v", len(s), len(got), is)
		}
	}
}

// TestTurned: P2.3. Sealed bytes in which bits are turned that lie within 32 are none, the sum's own among them.
func TestTurned(t *testing.T) {
	for _, s := range []string{"", "a", "123456789", mixed(13), strings.Repeat("\x00", 20), strings.Repeat("\xff", 20)} {
		all := sealed(s)
		x := uint32(1)
		for from := range len(all)*8 - 31 {
			for what := uint32(1); what < 1<<9; what++ {
				wantNone(t, turned(all, from, what))
				wantNone(t, turned(all, from, what<<23))
				wantNone(t, turned(all, from, what|1<<31))
			}
			for range 500 {
				x = x*1664525 + 1013904223
				if x != 0 {
					wantNone(t, turned(all, from, x))
				}
			}
			wantNone(t, turned(all, from, 1<<32-1))
			wantNone(t, turned(all, from, 0xedb88320))
			wantNone(t, turned(all, from, 0x04c11db7))
		}
	}
}

// TestTurnedInLong: P2.3. Long bytes, too.
func TestTurnedInLong(t *testing.T) {
	all := sealed(mixed(5000))
	for from := 0; from+32 <= len(all)*8; from += 61 {
		wantNone(t, turned(all, from, 1))
		wantNone(t, turned(all, from, 1<<31))
		wantNone(t, turned(all, from, 1<<32-1))
		wantNone(t, turned(all, from, 0x80000001))
	}
}

// TestTurnedByPoly: P2.3. Turned bits that span 33 are the least that may go unseen: 32 is just what a sum can tell.
func TestTurnedByPoly(t *testing.T) {
	all := sealed("123456789")
	b := []byte(all)
	b[0] ^= 1
	for i := range 32 {
		if uint32(0xedb88320)>>i&1 == 1 {
			b[(1+i)/8] ^= 1 << ((1 + i) % 8)
		}
	}
	if got, is := crc.Open(string(b)); !is || got == "123456789" {
		t.Errorf("Open(%x) = %q, %v: bytes with the same sum are sealed, too", b, got, is)
	}
}

// TestNew: R5. What is answered shares no memory with what was handed in.
func TestNew(t *testing.T) {
	b := []byte(sealed("123456789"))
	s := unsafe.String(&b[0], len(b))
	opened, is := crc.Open(s)
	again := crc.Seal(s)
	clear(b)
	if !is || opened != "123456789" || again != sealed(sealed("123456789")) {
		t.Errorf("%q and %q have changed with what was handed in", opened, again)
	}
}

// FuzzOpen: P2.1 to P2.3.
func FuzzOpen(f *testing.F) {
	f.Add("", 0, uint32(1))
	f.Add("123456789\x26\x39\xf4\xcb", 40, uint32(1<<32-1))
	f.Fuzz(func(t *testing.T, s string, from int, what uint32) {
		got, is := crc.Open(s)
		n := max(0, len(s)-4)
		if is != (s == sealed(s[:n])) || is && got != s[:n] || !is && got != "" {
			t.Fatalf("Open(%x) = %q, %v", s, got, is)
		}
		all := crc.Seal(s)
		if all != sealed(s) {
			t.Fatalf("Seal(%x) = %x", s, all)
		}
		if what != 0 && from >= 0 && from <= len(all)*8-32 {
			wantNone(t, turned(all, from, what))
		}
	})
}
