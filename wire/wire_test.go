package wire_test

import (
	"math"
	"strings"
	"testing"

	"couplet/wire"
)

// numbers are told with their bytes, written out by hand from the chapter's words.
var numbers = []struct {
	n    uint64
	want string
}{
	{0, "\x00"},
	{1, "\x01"},
	{127, "\x7f"},
	{128, "\x80\x01"},
	{129, "\x81\x01"},
	{255, "\xff\x01"},
	{256, "\x80\x02"},
	{300, "\xac\x02"},
	{16383, "\xff\x7f"},
	{16384, "\x80\x80\x01"},
	{1<<32 - 1, "\xff\xff\xff\xff\x0f"},
	{1 << 40, "\x80\x80\x80\x80\x80\x20"},
	{1<<56 - 1, "\xff\xff\xff\xff\xff\xff\xff\x7f"},
	{1 << 56, "\x80\x80\x80\x80\x80\x80\x80\x80\x01"},
	{1<<63 - 1, "\xff\xff\xff\xff\xff\xff\xff\xff\x7f"},
	{1 << 63, "\x80\x80\x80\x80\x80\x80\x80\x80\x80\x01"},
	{math.MaxUint64, "\xff\xff\xff\xff\xff\xff\xff\xff\xff\x01"},
}

// texts have lengths on both sides of where a length takes one digit more.
func texts() []string {
	return []string{"", "a", "ab", "\x00", "\xff\x80", strings.Repeat("x", 127), strings.Repeat("y", 128), strings.Repeat("\x80", 16384)}
}

// noNumbers begin with no number's bytes.
var noNumbers = []string{
	"",
	"\x81", "\x80", "\xff\xff\xff", "\xff\xff\xff\xff\xff\xff\xff\xff\xff", // cut off
	"\x81\x00", "\x80\x00", "\x80\x80\x00", "\xff\xff\xff\xff\xff\xff\xff\xff\xff\x00", "\x81\x00\x05", // a 0 as last digit
	"\xff\xff\xff\xff\xff\xff\xff\xff\xff\x02", "\x80\x80\x80\x80\x80\x80\x80\x80\x80\x02", // above 2^64 - 1
	"\x80\x80\x80\x80\x80\x80\x80\x80\x80\x7f",
	"\x80\x80\x80\x80\x80\x80\x80\x80\x80\x80\x01", "\x80\x80\x80\x80\x80\x80\x80\x80\x80\x81\x01", // eleven digits
	strings.Repeat("\x80", 100) + "\x01",
}

// TestPutNum: P1.1.
func TestPutNum(t *testing.T) {
	for _, c := range numbers {
		for _, ahead := range []string{"", "ab", "\x80", "\x00"} {
			if got := wire.PutNum(ahead, c.n); got != ahead+c.want {
				t.Errorf("PutNum(%q, %d) = %x", ahead, c.n, got)
			}
		}
	}
}

// TestPutText: P1.1.
func TestPutText(t *testing.T) {
	for _, c := range []struct{ s, t, want string }{
		{"", "", "\x00"},
		{"", "ab", "\x02ab"},
		{"x", "", "x\x00"},
		{"\x80", "\x00", "\x80\x01\x00"},
		{"", strings.Repeat("a", 127), "\x7f" + strings.Repeat("a", 127)},
		{"s", strings.Repeat("a", 128), "s\x80\x01" + strings.Repeat("a", 128)},
		{"", strings.Repeat("a", 300), "\xac\x02" + strings.Repeat("a", 300)},
	} {
		if got := wire.PutText(c.s, c.t); got != c.want {
			t.Errorf("PutText(%q, %d bytes) = %q", c.s, len(c.t), got)
		}
	}
}

// wantFailed holds that a reader has failed, and stays so.
func wantFailed(t *testing.T, what string, r *wire.Reader) {
	t.Helper()
	for range 2 {
		if r.OK() || r.End() {
			t.Errorf("%s: OK %v, End %v, want it failed", what, r.OK(), r.End())
		}
		if n, s := r.Num(), r.Text(); n != 0 || s != "" {
			t.Errorf("%s: it has failed, and told %d and %q", what, n, s)
		}
	}
}

// TestNum: P1.2.
func TestNum(t *testing.T) {
	for _, c := range numbers {
		r := wire.NewReader(c.want)
		if n := r.Num(); n != c.n || !r.OK() || !r.End() {
			t.Errorf("Num of %x = %d, OK %v, End %v", c.want, n, r.OK(), r.End())
		}
		r = wire.NewReader(c.want + "\x80")
		if n := r.Num(); n != c.n || !r.OK() || r.End() {
			t.Errorf("Num of %x and 80 = %d, OK %v, End %v", c.want, n, r.OK(), r.End())
		}
		if n := r.Num(); n != 0 {
			t.Errorf("Num of 80 = %d", n)
		}
		wantFailed(t, "80 behind a number", r)
	}
}

// TestNumOfNone: P1.2.
func TestNumOfNone(t *testing.T) {
	for _, s := range noNumbers {
		r := wire.NewReader(s)
		if n := r.Num(); n != 0 {
			t.Errorf("Num of %x = %d", s, n)
		}
		wantFailed(t, "no number", r)
	}
}

// TestText: P1.2.
func TestText(t *testing.T) {
	for _, text := range texts() {
		s := wire.PutText("", text)
		r := wire.NewReader(s)
		if got := r.Text(); got != text || !r.OK() || !r.End() {
			t.Errorf("Text of %d bytes: %d bytes, OK %v, End %v", len(text), len(got), r.OK(), r.End())
		}
		r = wire.NewReader(s + "\x05")
		if got := r.Text(); got != text || !r.OK() || r.End() {
			t.Errorf("Text of %d bytes and one: %d bytes, OK %v, End %v", len(text), len(got), r.OK(), r.End())
		}
		if n := r.Num(); n != 5 || !r.End() {
			t.Errorf("Num behind a text = %d, End %v", n, r.End())
		}
	}
}

// TestTextOfNone: P1.2.
func TestTextOfNone(t *testing.T) {
	all := append([]string{
		"\x03ab", "\x01", "\x80\x01" + strings.Repeat("a", 127),
		"\xff\xff\xff\xff\x07abc",                    // 2^31 - 1
		"\x80\x80\x80\x80\x80\x80\x80\x80\x80\x01ab", // 2^63 is below 0 as an int
		"\xff\xff\xff\xff\xff\xff\xff\xff\xff\x01ab",
		"\x81\x00a",
	}, noNumbers...)
	for _, s := range all {
		r := wire.NewReader(s)
		if got := r.Text(); got != "" {
			t.Errorf("Text of %x = %q", s, got)
		}
		wantFailed(t, "no text", r)
	}
}

// TestFailedForGood: P1.2. What could be read behind the fault is not read any more.
func TestFailedForGood(t *testing.T) {
	r := wire.NewReader("\x05\x81\x00\x07\x01a")
	if n := r.Num(); n != 5 || !r.OK() {
		t.Errorf("Num = %d, OK %v", n, r.OK())
	}
	if n := r.Num(); n != 0 {
		t.Errorf("Num of 81 00 = %d", n)
	}
	wantFailed(t, "behind 81 00", r)

	r = wire.NewReader("\x04abc")
	if s := r.Text(); s != "" {
		t.Errorf("Text of 04 61 62 63 = %q", s)
	}
	wantFailed(t, "behind a text's length", r)
}

// TestEnd: P1.2. To be at the end is no failure; to read there is one.
func TestEnd(t *testing.T) {
	r := wire.NewReader("")
	if !r.OK() || !r.End() {
		t.Errorf("a reader of no bytes: OK %v, End %v", r.OK(), r.End())
	}
	if s := r.Text(); s != "" {
		t.Errorf("Text at the end = %q", s)
	}
	wantFailed(t, "a text at the end", r)

	r = wire.NewReader("\x05\x00\x01a")
	if r.End() {
		t.Error("at the end ahead of all")
	}
	if n, s := r.Num(), r.Text(); n != 5 || s != "" || !r.OK() || r.End() {
		t.Errorf("05 00 01 61: %d, %q, OK %v, End %v", n, s, r.OK(), r.End())
	}
	if s := r.Text(); s != "a" || !r.OK() || !r.End() {
		t.Errorf("01 61: %q, OK %v, End %v", s, r.OK(), r.End())
	}
	if n := r.Num(); n != 0 {
		t.Errorf("Num at the end = %d", n)
	}
	wantFailed(t, "a number at the end", r)
}

// TestNoReader: P1.2.
func TestNoReader(t *testing.T) {
	var none *wire.Reader
	wantFailed(t, "a reader that is none", none)
}

// TestTwoReaders: P1.2. Each reader has its own place.
func TestTwoReaders(t *testing.T) {
	s := "\x01\x02"
	a, b := wire.NewReader(s), wire.NewReader(s)
	if a.Num() != 1 || b.Num() != 1 || a.Num() != 2 || !a.End() || b.End() || b.Num() != 2 || !b.End() {
		t.Error("one reader went on with the other one")
	}
}

// mixed tells numbers of all lengths, from a short rule.
func mixed() []uint64 {
	var l []uint64
	x := uint64(1)
	for i := range 2000 {
		x = x*6364136223846793005 + 1442695040888963407
		l = append(l, x>>(i%64))
	}
	return l
}

// TestBack: P1.3. What was put one behind the other is read back.
func TestBack(t *testing.T) {
	s, texts := "", texts()
	for i, n := range mixed() {
		s = wire.PutNum(s, n)
		if i%50 == 0 {
			s = wire.PutText(s, texts[i/50%len(texts)])
		}
	}
	r := wire.NewReader(s)
	for i, n := range mixed() {
		if got := r.Num(); got != n || !r.OK() {
			t.Fatalf("number %d: %d, not %d", i, got, n)
		}
		if i%50 != 0 {
			continue
		}
		if got := r.Text(); got != texts[i/50%len(texts)] || !r.OK() {
			t.Fatalf("text behind number %d: %q", i, got)
		}
	}
	if !r.End() {
		t.Error("not at the end")
	}
}

// begins tells with which number's bytes s begins, by holding the words against each length: slow, and by another way than the reader's.
func begins(s string) (n uint64, size int) {
	for size := 1; size <= len(s) && size <= 10; size++ {
		n = 0
		over := false
		for i := size - 1; i >= 0; i-- {
			digit := uint64(s[i] % 128)
			over = over || n > (math.MaxUint64-digit)/128
			n = n*128 + digit
			if i < size-1 && s[i] < 128 || i == size-1 && s[i] >= 128 {
				over = true
			}
		}
		if !over && (size == 1 || s[size-1] != 0) {
			return n, size
		}
	}
	return 0, 0
}

// holdRead holds what a reader makes of s against the words, and against what would be put.
func holdRead(t *testing.T, s string) {
	t.Helper()
	want, size := begins(s)
	r := wire.NewReader(s)
	n := r.Num()
	if n != want || r.OK() != (size > 0) || r.End() != (size > 0 && size == len(s)) {
		t.Fatalf("%x: %d, OK %v, End %v; want %d of %d bytes", s, n, r.OK(), r.End(), want, size)
	}
	if size > 0 && wire.PutNum("", n) != s[:size] {
		t.Fatalf("%x is read as %d, whose bytes are %x", s[:size], n, wire.PutNum("", n))
	}
	r = wire.NewReader(s)
	text := r.Text()
	is := size > 0 && want <= uint64(len(s)-size)
	if r.OK() != is || !is && text != "" {
		t.Fatalf("%x: text %q, OK %v", s, text, r.OK())
	}
	if is && (text != s[size:size+int(want)] || wire.PutText("", text) != s[:size+int(want)]) {
		t.Fatalf("%x: text %q", s, text)
	}
}

// TestPutAsRead: P1.3. Bytes that are read are those that would be put.
func TestPutAsRead(t *testing.T) {
	holdRead(t, "")
	for a := range 256 {
		holdRead(t, string([]byte{byte(a)}))
		for b := range 256 {
			holdRead(t, string([]byte{byte(a), byte(b)}))
			for _, c := range []byte{0, 1, 2, 127, 128, 129, 255} {
				holdRead(t, string([]byte{byte(a), byte(b), c}))
			}
		}
	}
	for _, ahead := range []string{strings.Repeat("\x80", 8), strings.Repeat("\xff", 8)} {
		for a := range 256 {
			for b := range 256 {
				holdRead(t, ahead+string([]byte{byte(a), byte(b)}))
			}
		}
	}
}

// TestNoneBeginsAnother: P1.3.
func TestNoneBeginsAnother(t *testing.T) {
	for _, n := range mixed() {
		s := wire.PutNum("", n)
		for i := range s {
			if r := wire.NewReader(s[:i]); r.Num() != 0 || r.OK() {
				t.Errorf("%x, of the bytes %x of %d, is a number's", s[:i], s, n)
			}
		}
	}
	for _, text := range texts()[:7] {
		s := wire.PutText("", text)
		for i := range s {
			if r := wire.NewReader(s[:i]); r.Text() != "" || r.OK() {
				t.Errorf("%x, of the bytes %x, is a text's", s[:i], s)
			}
		}
	}
}

// FuzzRead: P1.2, P1.3.
func FuzzRead(f *testing.F) {
	for _, s := range noNumbers {
		f.Add(s)
	}
	f.Add("\x03abc")
	f.Fuzz(func(t *testing.T, s string) { holdRead(t, s) })
}
