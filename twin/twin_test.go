package twin_test

import (
	"encoding/binary"
	"math"
	"strings"
	"testing"
	"unsafe"

	"couplet/api"
	"couplet/disk"
	"couplet/twin"
)

const top = 1<<32 - 1

var (
	zeros   = strings.Repeat("\x00", api.Sector)
	longest = strings.Repeat("m", api.MaxTwin)
)

// half tells a copy.
func half(seq uint32, text string) string {
	s := string(binary.BigEndian.AppendUint32(nil, seq)) + string([]byte{byte(len(text))}) + text
	return s + strings.Repeat("\x00", 64-len(s))
}

// both tells a sector of two copies.
func both(seq uint32, text string) string { return half(seq, text) + half(seq, text) }

// wantErr holds what was answered against what was to be.
func wantErr(t *testing.T, what string, got, want api.Errno) {
	t.Helper()
	if got != want {
		t.Fatalf("%s: %d, want %d", what, got, want)
	}
}

// write makes sectors be what is told, flushed; the first one is at.
func write(t *testing.T, d *disk.Disk, at int, sectors ...string) {
	t.Helper()
	for i, s := range sectors {
		wantErr(t, "Write", d.Write(at+i, s), api.OK)
	}
	wantErr(t, "Flush", d.Flush(), api.OK)
}

// lying makes a disk of four sectors; those at 1 and 2 are what is told, flushed.
func lying(t *testing.T, first, second string) *disk.Disk {
	t.Helper()
	d := disk.New(4)
	write(t, d, 1, first, second)
	return d
}

// newTwin makes a disk of four sectors, and a twin at 1.
func newTwin(t *testing.T) (*disk.Disk, *twin.Twin) {
	t.Helper()
	d := disk.New(4)
	wantErr(t, "Format", twin.Format(d, 1), api.OK)
	return d, open(t, d, 1)
}

// open opens a twin.
func open(t *testing.T, d *disk.Disk, at int) *twin.Twin {
	t.Helper()
	w, e := twin.Open(d, at)
	if e != api.OK || w == nil {
		t.Fatalf("Open(%d): %v, %d", at, w, e)
	}
	return w
}

// wantNoOpen holds that none is opened.
func wantNoOpen(t *testing.T, d *disk.Disk, at int, want api.Errno) {
	t.Helper()
	if w, e := twin.Open(d, at); w != nil || e != want {
		t.Fatalf("Open(%d): %v, %d; want error %d", at, w, e, want)
	}
}

// wantSays holds what a twin says.
func wantSays(t *testing.T, w *twin.Twin, seq uint64, text string) {
	t.Helper()
	if w.Seq() != seq || w.Text() != text {
		t.Fatalf("it says %d, %q; want %d, %q", w.Seq(), w.Text(), seq, text)
	}
}

// wantDisk holds what a disk's sectors are.
func wantDisk(t *testing.T, d *disk.Disk, sectors ...string) {
	t.Helper()
	for i, want := range sectors {
		if got, e := d.Read(i); e != api.OK || got != want {
			t.Fatalf("sector %d: %q, %d; want %q", i, got, e, want)
		}
	}
}

// again takes the power, and wakes.
func again(d *disk.Disk, fates ...uint8) {
	d.Off()
	d.Wake(fates)
}

// TestExamples: P4.1 to P4.3. The chapter's, one behind the other.
func TestExamples(t *testing.T) {
	d := disk.New(4)
	wantNoOpen(t, d, 1, api.ErrBroken)
	wantErr(t, "Format", twin.Format(d, 1), api.OK)
	w := open(t, d, 1)
	wantSays(t, w, 1, "")

	wantErr(t, "Set(ab)", w.Set("ab"), api.OK)
	wantSays(t, w, 2, "ab")
	wantSays(t, open(t, d, 1), 2, "ab")

	wantErr(t, "Set of 56 bytes", w.Set(longest+"m"), api.ErrLong)
	wantErr(t, "Format(3)", twin.Format(d, 3), api.ErrRange)
	wantNoOpen(t, d, -1, api.ErrRange)

	d.Arm(1)
	wantErr(t, "Set(cd)", w.Set("cd"), api.ErrOff)
	wantErr(t, "Set(cd)", w.Set("cd"), api.ErrOff)
	d.Wake([]uint8{70})
	w = open(t, d, 1)
	wantSays(t, w, 2, "ab")

	other := d.Copy()
	for _, x := range []struct {
		d    *disk.Disk
		fate uint8
		text string
	}{{d, 70, "ab"}, {other, 1, "cd"}} {
		w := open(t, x.d, 1)
		x.d.Arm(2)
		wantErr(t, "Set(cd)", w.Set("cd"), api.ErrOff)
		x.d.Wake([]uint8{x.fate})
		if got := open(t, x.d, 1).Text(); got != x.text {
			t.Errorf("fate %d: %q, want %q", x.fate, got, x.text)
		}
	}
}

// TestFormat: P4.1. Which sectors become what; the others stay.
func TestFormat(t *testing.T) {
	was := strings.Repeat("x", api.Sector)
	for at := range 3 {
		d := disk.New(4)
		write(t, d, 0, was, was, was, was)
		wantErr(t, "Format", twin.Format(d, at), api.OK)
		want := []string{was, was, was, was}
		want[at], want[at+1] = zeros, both(1, "")
		wantDisk(t, d, want...)
		again(d)
		wantDisk(t, d, want...)
		wantSays(t, open(t, d, at), 1, "")
	}
}

// TestFormatAgain: P4.1. What was said is no more.
func TestFormatAgain(t *testing.T) {
	d, w := newTwin(t)
	for range 5 {
		wantErr(t, "Set", w.Set("ab"), api.OK)
	}
	wantErr(t, "Format", twin.Format(d, 1), api.OK)
	w = open(t, d, 1)
	wantSays(t, w, 1, "")
	wantErr(t, "Set", w.Set("cd"), api.OK)
	wantDisk(t, d, zeros, both(2, "cd"), both(1, ""), zeros)
}

// TestFormatOff: P4.1. The power is off, or goes at one of three operations: what was done by then is done, in that order.
func TestFormatOff(t *testing.T) {
	was := strings.Repeat("x", api.Sector)
	for n, want := range [][2]string{{was, was}, {zeros, was}, {zeros, both(1, "")}} {
		d := lying(t, was, was)
		d.Arm(n + 1)
		wantErr(t, "Format", twin.Format(d, 1), api.ErrOff)
		if d.On() {
			t.Fatalf("Arm(%d), Format: the power is on", n+1)
		}
		wantErr(t, "Format, off", twin.Format(d, 1), api.ErrOff)
		wantErr(t, "Format, off", twin.Format(d, 3), api.ErrRange)
		lost := d.Copy()
		d.Wake([]uint8{1, 1, 1, 1})
		wantDisk(t, d, zeros, want[0], want[1], zeros)
		lost.Wake(nil)
		wantDisk(t, lost, zeros, was, was, zeros)
	}
	d := disk.New(2)
	d.Arm(4)
	wantErr(t, "Format with a fuse of four", twin.Format(d, 0), api.OK)
	wantErr(t, "Flush", d.Flush(), api.ErrOff)
}

// TestPlaces: P4.1, P4.2. Where no twin can lie; the power, if off, is asked for behind that.
func TestPlaces(t *testing.T) {
	for _, sectors := range []int{1, 2, 4, 4096} {
		d := disk.New(sectors)
		for range 2 {
			for _, at := range []int{-1, math.MinInt, sectors - 1, sectors, sectors + 1, math.MaxInt - 1, math.MaxInt} {
				wantErr(t, "Format", twin.Format(d, at), api.ErrRange)
				wantNoOpen(t, d, at, api.ErrRange)
			}
			d.Off()
		}
	}
	d := disk.New(4096)
	wantErr(t, "Format(4094)", twin.Format(d, 4094), api.OK)
	wantErr(t, "Format(0)", twin.Format(d, 0), api.OK)
	wantErr(t, "Set", open(t, d, 4094).Set("end"), api.OK)
	wantSays(t, open(t, d, 4094), 2, "end")
	wantSays(t, open(t, d, 0), 1, "")
}

// TestNoDisk: P4.1, P4.2.
func TestNoDisk(t *testing.T) {
	for _, at := range []int{0, -1, math.MaxInt} {
		wantErr(t, "Format of none", twin.Format(nil, at), api.ErrNil)
		wantNoOpen(t, nil, at, api.ErrNil)
		wantErr(t, "Format of a disk that was not made", twin.Format(&disk.Disk{}, at), api.ErrRange)
		wantNoOpen(t, &disk.Disk{}, at, api.ErrRange)
	}
}

// TestNoTwin: P4.3. R3. Of one that was not opened, too.
func TestNoTwin(t *testing.T) {
	for _, w := range []*twin.Twin{nil, {}} {
		wantSays(t, w, 0, "")
		for _, s := range []string{"", "ab", longest + "m"} {
			wantErr(t, "Set", w.Set(s), api.ErrNil)
		}
		wantSays(t, w, 0, "")
	}
}

// TestSays: P4.2. Which sectors say something.
func TestSays(t *testing.T) {
	spoilt := func(s string, at int, b byte) string {
		l := []byte(s)
		l[at], l[64+at] = b, b
		return string(l)
	}
	for _, x := range []struct {
		what          string
		first, second string
		seq           uint64 // 0: it is broken
		text          string
	}{
		{"none", zeros, zeros, 0, ""},
		{"an odd number in the second", zeros, both(1, "a"), 1, "a"},
		{"an even number in the first", both(2, "a"), zeros, 2, "a"},
		{"an odd number in the first", both(1, "a"), zeros, 0, ""},
		{"an even number in the second", zeros, both(2, "a"), 0, ""},
		{"0 in the first", both(0, "a"), zeros, 0, ""},
		{"0 in the second", zeros, both(0, "a"), 0, ""},
		{"0, and one", both(0, "a"), both(1, "b"), 1, "b"},
		{"the first one is the higher", both(4, "a"), both(3, "b"), 4, "a"},
		{"the second one is the higher", both(4, "a"), both(5, "b"), 5, "b"},
		{"higher by far", both(4, "a"), both(1001, "b"), 1001, "b"},
		{"higher by the first byte", both(1<<24, "a"), both(1<<24-1, "b"), 1 << 24, "a"},
		{"higher by the second byte", both(1<<16, "a"), both(1<<16-1, "b"), 1 << 16, "a"},
		{"higher by the third byte", both(256, "a"), both(255, "b"), 256, "a"},
		{"higher by the third byte", both(256, "a"), both(257, "b"), 257, "b"},
		{"the highest", both(top-1, "a"), both(top, "b"), top, "b"},
		{"the higher one is odd, in the first", both(5, "a"), both(3, "b"), 3, "b"},
		{"the longest text", both(2, longest), zeros, 2, longest},
		{"a longer text", spoilt(both(2, longest), 4, 56), zeros, 0, ""},
		{"a text of 59", spoilt(both(2, longest), 4, 59), zeros, 0, ""},
		{"a text of 255", both(6, "a"), spoilt(both(7, longest), 4, 255), 6, "a"},
		{"a byte behind the text", spoilt(both(2, "ab"), 7, 1), zeros, 0, ""},
		{"a byte at the end", spoilt(both(2, "ab"), 63, 1), both(1, "c"), 1, "c"},
		{"a byte behind the longest text", spoilt(both(2, longest), 60, 1), zeros, 0, ""},
		{"a text of zeros", both(2, "\x00\x00"), both(1, "c"), 2, "\x00\x00"},
		{"a shorter text", spoilt(both(2, "ab"), 4, 1), zeros, 0, ""},
		{"any bytes", strings.Repeat("x", 128), both(3, "\xff"), 3, "\xff"},
	} {
		d := lying(t, x.first, x.second)
		if x.seq == 0 {
			wantNoOpen(t, d, 1, api.ErrBroken)
		} else {
			w := open(t, d, 1)
			if w.Seq() != x.seq || w.Text() != x.text {
				t.Errorf("%s: %d, %q", x.what, w.Seq(), w.Text())
			}
		}
		wantDisk(t, d, zeros, x.first, x.second, zeros)
	}
}

// TestMend: P4.2, P4.4. Sectors whose copies are unlike become zeros, flushed, whatever is said then; the others stay, though they say nothing.
func TestMend(t *testing.T) {
	junk := strings.Repeat("x", 128)
	for _, x := range []struct {
		first, second string
		seq           uint64
	}{
		{both(2, "a"), half(3, "b") + half(1, "c"), 2},
		{half(4, "a") + half(2, "b"), both(3, "c"), 3},
		{half(4, "a") + half(2, "b"), half(3, "c") + half(1, "d"), 0},
		{half(4, "a") + half(4, "b"), junk, 0},
		{junk, zeros[1:] + "x", 0},
		{both(2, "a"), "x" + zeros[1:], 2},
		{half(2, "a") + zeros[64:], both(1, ""), 1},
		{zeros[64:] + half(2, "a"), both(1, ""), 1},
		{junk, both(1, ""), 1},
	} {
		for _, way := range []bool{false, true} { // the power goes behind the Open, or does not
			d := lying(t, x.first, x.second)
			if x.seq == 0 {
				wantNoOpen(t, d, 1, api.ErrBroken)
			} else if w := open(t, d, 1); w.Seq() != x.seq {
				t.Errorf("%q, %q: %d", x.first, x.second, w.Seq())
			}
			want := []string{zeros, x.first, x.second, zeros}
			for i := 1; i < 3; i++ {
				if want[i][:64] != want[i][64:] {
					want[i] = zeros
				}
			}
			if way {
				again(d)
			}
			wantDisk(t, d, want...)
		}
	}
}

// TestMendOff: P4.2. The operations of an Open: a write for each sector whose copies are unlike, and a flush, if there is one.
func TestMendOff(t *testing.T) {
	torn := half(4, "a") + half(2, "b")
	for _, x := range []struct {
		first, second string
		ops           int
	}{
		{both(2, "a"), both(1, "b"), 0},
		{torn, both(1, "b"), 2},
		{both(2, "a"), torn, 2},
		{torn, torn, 3},
	} {
		for n := 1; n <= x.ops; n++ {
			d := lying(t, x.first, x.second)
			d.Arm(n)
			wantNoOpen(t, d, 1, api.ErrOff)
			wantNoOpen(t, d, 1, api.ErrOff)
			d.Wake(nil)
			wantDisk(t, d, zeros, x.first, x.second, zeros)
		}
		d := lying(t, x.first, x.second)
		d.Arm(x.ops + 1)
		_, e := twin.Open(d, 1)
		if !d.On() || e == api.ErrOff {
			t.Fatalf("an Open of %d operations takes more: %d", x.ops, e)
		}
		wantErr(t, "Flush", d.Flush(), api.ErrOff)
	}
	d := lying(t, torn, torn)
	d.Arm(2)
	wantNoOpen(t, d, 1, api.ErrOff)
	d.Wake([]uint8{1, 1})
	wantDisk(t, d, zeros, zeros, torn, zeros)
}

// TestOpenOff: P4.2. Power that is off, ahead of what the sectors say.
func TestOpenOff(t *testing.T) {
	for _, d := range []*disk.Disk{lying(t, both(2, "a"), both(1, "")), lying(t, zeros, zeros)} {
		d.Off()
		wantNoOpen(t, d, 1, api.ErrOff)
		wantNoOpen(t, d, 3, api.ErrRange)
	}
}

// TestSet: P4.3. Numbers go on by one, sectors take turns, and each one is flushed.
func TestSet(t *testing.T) {
	d, w := newTwin(t)
	texts := []string{"", "a", "\x00", longest, longest[1:], "\xff\x00\x80", "b"}
	for n := uint64(2); n < 600; n++ {
		text := texts[n%7]
		wantErr(t, "Set", w.Set(text), api.OK)
		wantSays(t, w, n, text)
		other, _ := d.Read(int(2 - n%2))
		again(d)
		sectors := []string{zeros, other, other, zeros}
		sectors[1+n%2] = both(uint32(n), text)
		wantDisk(t, d, sectors...)
		if n%5 == 0 {
			w = open(t, d, 1)
		}
	}
}

// TestSetLong: P4.3. Nothing has changed, and it goes on.
func TestSetLong(t *testing.T) {
	d, w := newTwin(t)
	wantErr(t, "Set", w.Set(longest), api.OK)
	for _, s := range []string{longest + "m", longest + longest, strings.Repeat("x", 256), strings.Repeat("x", 261)} {
		d.Arm(2)
		wantErr(t, "Set", w.Set(s), api.ErrLong)
		wantSays(t, w, 2, longest)
		wantDisk(t, d, zeros, both(2, longest), both(1, ""), zeros)
	}
	d.Arm(0)
	wantErr(t, "Set", w.Set("a"), api.OK)
	d.Off()
	wantErr(t, "Set, off", w.Set(longest+"m"), api.ErrLong)
	wantErr(t, "Set, off", w.Set(longest), api.ErrOff)
	wantSays(t, w, 3, "a")
}

// TestSetAtTheEnd: P4.3. Numbers end; power that is off is asked for ahead of that.
func TestSetAtTheEnd(t *testing.T) {
	d := lying(t, both(top-1, "a"), both(top-2, "b"))
	w := open(t, d, 1)
	wantErr(t, "Set", w.Set("c"), api.OK)
	wantSays(t, w, top, "c")
	wantDisk(t, d, zeros, both(top-1, "a"), both(top, "c"), zeros)
	for _, w := range []*twin.Twin{w, open(t, d, 1)} {
		d.Arm(1)
		wantErr(t, "Set", w.Set("d"), api.ErrSpace)
		wantErr(t, "Set", w.Set(longest+"m"), api.ErrLong)
		wantSays(t, w, top, "c")
	}
	wantDisk(t, d, zeros, both(top-1, "a"), both(top, "c"), zeros)
	d.Off()
	wantErr(t, "Set, off", w.Set("d"), api.ErrOff)
	d.Wake(nil)
	wantErr(t, "Set", w.Set("d"), api.ErrSpace)
}

// TestSetLost: P4.3. Behind a Set in which the power went, nothing is set by this twin; it tells what it told ahead.
func TestSetLost(t *testing.T) {
	for n := 1; n <= 2; n++ {
		for _, fate := range []uint8{0, 1, 70} {
			d, w := newTwin(t)
			wantErr(t, "Set(ab)", w.Set("ab"), api.OK)
			d.Arm(n)
			wantErr(t, "Set(cd)", w.Set("cd"), api.ErrOff)
			if d.On() {
				t.Fatal("the power is on")
			}
			d.Wake([]uint8{fate})
			sectors := []string{}
			for i := range d.Len() {
				s, _ := d.Read(i)
				sectors = append(sectors, s)
			}
			d.Arm(1)
			for range 3 {
				wantErr(t, "Set(ef)", w.Set("ef"), api.ErrOff)
				wantErr(t, "Set of 56 bytes", w.Set(longest+"m"), api.ErrLong)
				wantSays(t, w, 2, "ab")
			}
			wantDisk(t, d, sectors...)
			d.Arm(0)
			wantErr(t, "Set(gh)", open(t, d, 1).Set("gh"), api.OK)
			wantErr(t, "Set(ef)", w.Set("ef"), api.ErrOff)
			if got := open(t, d, 1).Text(); got != "gh" {
				t.Errorf("Arm(%d), fate %d: %q", n, fate, got)
			}
		}
	}
	d, w := newTwin(t)
	d.Arm(3)
	wantErr(t, "a Set is two operations", w.Set("ab"), api.OK)
	wantErr(t, "Flush", d.Flush(), api.ErrOff)
}

// TestSetBehindOff: P4.3. Power that went elsewhere, and is back, is no hindrance.
func TestSetBehindOff(t *testing.T) {
	d, w := newTwin(t)
	wantErr(t, "Set(ab)", w.Set("ab"), api.OK)
	d.Off()
	wantErr(t, "Set(cd)", w.Set("cd"), api.ErrOff)
	wantSays(t, w, 2, "ab")
	d.Wake(nil)
	wantDisk(t, d, zeros, both(2, "ab"), both(1, ""), zeros)
	wantErr(t, "Set(cd)", w.Set("cd"), api.OK)
	wantSays(t, w, 3, "cd")
	d.Off()
	wantSays(t, w, 3, "cd")
}

// TestTwinsApart: P4.3. Two twins on one disk, and two disks that were one, go their own ways.
func TestTwinsApart(t *testing.T) {
	d := disk.New(4)
	for _, at := range []int{0, 2} {
		wantErr(t, "Format", twin.Format(d, at), api.OK)
	}
	v, w := open(t, d, 0), open(t, d, 2)
	wantErr(t, "Set(a)", v.Set("a"), api.OK)
	wantErr(t, "Set(b)", w.Set("b"), api.OK)
	wantErr(t, "Set(c)", w.Set("c"), api.OK)
	wantDisk(t, d, both(2, "a"), both(1, ""), both(2, "b"), both(3, "c"))

	x := open(t, d.Copy(), 0)
	wantErr(t, "Set(d)", x.Set("d"), api.OK)
	wantSays(t, v, 2, "a")
	wantSays(t, open(t, d, 0), 2, "a")
}

// TestNotKept: R5. A text that is handed in is not kept; what is answered is new.
func TestNotKept(t *testing.T) {
	d, w := newTwin(t)
	handed := []byte("abc")
	wantErr(t, "Set", w.Set(unsafe.String(&handed[0], len(handed))), api.OK)
	clear(handed)
	wantSays(t, w, 2, "abc")
	wantSays(t, open(t, d, 1), 2, "abc")
	one, two := w.Text(), w.Text()
	if unsafe.StringData(one) == unsafe.StringData(two) {
		t.Error("two answers share memory")
	}
	wantErr(t, "Set", w.Set("xyz"), api.OK)
	if one != "abc" {
		t.Errorf("%q has changed with the twin", one)
	}
}

// TestTorn: P4.4. A torn write of two copies leaves, on two that are alike, two that are alike just if they are the old ones, or the new ones.
func TestTorn(t *testing.T) {
	sectors := []string{zeros, both(2, "ab"), both(4, "ab"), both(4, longest), both(254, "x"), both(256, "x"), both(258, "\x00\x00"), both(2, "\x01")}
	for _, was := range sectors {
		for _, s := range sectors {
			for f := range 256 {
				d := lying(t, was, zeros)
				wantErr(t, "Write", d.Write(1, s), api.OK)
				again(d, uint8(f))
				got, _ := d.Read(1)
				if (got[:64] == got[64:]) != (got == was || got == s) {
					t.Fatalf("%q, on it %q, fate %d: %q", was, s, f, got)
				}
			}
		}
	}
}

// afterSet tells all disks that a Set may leave behind a Wake, if the power goes in it.
func afterSet(t *testing.T, d *disk.Disk, text string) []*disk.Disk {
	t.Helper()
	var l []*disk.Disk
	for n := 1; n <= 2; n++ {
		for f := range 256 {
			c := d.Copy()
			w := open(t, c, 1)
			c.Arm(n)
			wantErr(t, "Set", w.Set(text), api.ErrOff)
			c.Wake([]uint8{uint8(f)})
			l = append(l, c)
		}
	}
	return l
}

// afterOpen tells all disks that an Open may leave behind a Wake, if the power goes in it: one or two writes of it may be torn, by each of these fates.
func afterOpen(d *disk.Disk, fates []uint8) []*disk.Disk {
	var l []*disk.Disk
	for n := 1; n <= 3; n++ {
		off := d.Copy()
		off.Arm(n)
		if _, e := twin.Open(off, 1); e != api.ErrOff {
			break
		}
		for _, f := range fates {
			c := off.Copy()
			c.Wake([]uint8{f, f ^ 0x55})
			l = append(l, c)
		}
	}
	return l
}

// holdAllOrNothing goes on from disks to all that may come of them while the power goes in one Open behind the other, and holds what is said.
func holdAllOrNothing(t *testing.T, l []*disk.Disk, fates []uint8, says func(*twin.Twin) bool) {
	t.Helper()
	seen := map[string]bool{}
	for len(l) > 0 {
		d := l[len(l)-1]
		l = l[:len(l)-1]
		first, _ := d.Read(1)
		second, _ := d.Read(2)
		if seen[first+second] {
			continue
		}
		seen[first+second] = true
		l = append(l, afterOpen(d, fates)...)
		w := open(t, d, 1)
		if !says(w) {
			t.Fatalf("%q, %q: it says %d, %q", first, second, w.Seq(), w.Text())
		}
		for i := 1; i < 3; i++ {
			if s, _ := d.Read(i); s[:64] != s[64:] {
				t.Fatalf("behind an Open the copies are unlike: %q", s)
			}
		}
	}
}

// allOrNothing: wherever the power goes in a Set of text, the twin says one of two texts, and whatever is set behind that stays.
func allOrNothing(t *testing.T, first, second, text string, fates []uint8) {
	t.Helper()
	d := lying(t, first, second)
	was := open(t, d, 1)
	holdAllOrNothing(t, afterSet(t, d, text), fates, func(w *twin.Twin) bool {
		old := w.Seq() == was.Seq() && w.Text() == was.Text()
		set := w.Seq() == was.Seq()+1 && w.Text() == text
		return old || set
	})
	wantErr(t, "Set", was.Set(text), api.OK)
	again(d)
	holdAllOrNothing(t, []*disk.Disk{d}, fates, func(w *twin.Twin) bool {
		return w.Seq() == was.Seq() && w.Text() == text
	})
}

// TestAllOrNothing: P4.5. Wherever the power goes in a Set, and in the Opens behind it.
func TestAllOrNothing(t *testing.T) {
	some := []uint8{0, 1, 2, 3, 4, 5, 6, 7, 8, 60, 61, 63, 64, 65, 66, 67, 68, 69, 70, 71, 100, 124, 127}
	for _, x := range []struct{ first, second, text string }{
		{zeros, both(1, ""), "ab"},
		{zeros, both(1, ""), ""},
		{both(2, "ab"), both(3, "cd"), "ab"},
		{both(2, "ab"), both(3, "cd"), "cd"},
		{both(2, longest), both(3, ""), longest},
		{both(2, "ab"), both(3, ""), "\x00\x00"},
		{both(2, "\x00\x00"), both(3, ""), ""},
		{both(4, "ab"), both(3, ""), longest},
		{both(254, "a"), both(255, "b"), "c"},
		{both(256, "a"), both(255, "b"), "c"},
		{both(65534, "a"), both(65535, "b"), "a"},
		{both(1<<24-2, "a"), both(1<<24-1, "b"), "a"},
		{both(top-1, "a"), both(top-2, "b"), "b"},
		{both(2, "a"), both(1001, "b"), "a"},
		{strings.Repeat("x", 128), both(1, ""), "a"},
		{half(4, "a") + half(2, "b"), both(3, "b"), "a"},
	} {
		allOrNothing(t, x.first, x.second, x.text, some)
	}
	every := make([]uint8, 128)
	for i := range every {
		every[i] = uint8(i)
	}
	allOrNothing(t, both(2, "ab"), both(3, "cd"), "efgh", every)
}

// TestOften: P4.5. Sets in a row, the power going in any of them, and in the Opens between.
func TestOften(t *testing.T) {
	x := uint32(1)
	next := func(n int) int {
		x = x*1664525 + 1013904223
		return int(x>>16) % n
	}
	d, w := newTwin(t)
	says := ""
	for i := range 20000 {
		text := strings.Repeat(string(rune('a'+i%26)), next(api.MaxTwin+1))
		d.Arm(next(6))
		e := w.Set(text)
		if e == api.OK {
			says = text
			continue
		}
		wantErr(t, "Set", e, api.ErrOff)
		for e == api.ErrOff {
			again(d, uint8(next(256)), uint8(next(256)))
			d.Arm(next(4))
			w, e = twin.Open(d, 1)
		}
		wantErr(t, "Open", e, api.OK)
		if w.Text() != says && w.Text() != text {
			t.Fatalf("%q, ahead of it %q: it says %q", text, says, w.Text())
		}
		says = w.Text()
	}
}

// model is a twin by another way than the program's: on a disk of its own, sectors are read as texts.
type model struct {
	d    *disk.Disk
	at   int
	seq  uint32
	text string
	lost bool
}

// reads tells what a sector says, by its half.
func reads(s string) (uint32, string) {
	h := s[:64]
	n := binary.BigEndian.Uint32([]byte(h))
	if h != s[64:] || h[4] > 55 || strings.Trim(h[5+h[4]:], "\x00") != "" {
		return 0, ""
	}
	return n, h[5 : 5+h[4]]
}

func (m *model) format() api.Errno {
	if m.at < 0 || m.at+1 >= m.d.Len() {
		return api.ErrRange
	}
	e := m.d.Write(m.at, zeros)
	e = max(e, m.d.Write(m.at+1, both(1, "")))
	return max(e, m.d.Flush())
}

func (m *model) open() api.Errno {
	if m.at < 0 || m.at+1 >= m.d.Len() {
		return api.ErrRange
	}
	unlike := 0
	for i := m.at; i < m.at+2; i++ {
		if s, _ := m.d.Read(i); m.d.On() && s[:64] != s[64:] {
			unlike++
			m.d.Write(i, zeros)
		}
	}
	if unlike > 0 {
		m.d.Flush()
	}
	if !m.d.On() {
		return api.ErrOff
	}
	m.seq, m.text, m.lost = 0, "", false
	for i := range 2 {
		s, _ := m.d.Read(m.at + i)
		if n, text := reads(s); n%2 == uint32(i) && n > m.seq {
			m.seq, m.text = n, text
		}
	}
	if m.seq == 0 {
		return api.ErrBroken
	}
	return api.OK
}

func (m *model) set(text string) api.Errno {
	switch {
	case len(text) > 55:
		return api.ErrLong
	case m.lost, !m.d.On():
		return api.ErrOff
	case m.seq == top:
		return api.ErrSpace
	}
	e := m.d.Write(m.at+int((m.seq+1)%2), both(m.seq+1, text))
	if max(e, m.d.Flush()) != api.OK {
		m.lost = true
		return api.ErrOff
	}
	m.seq, m.text = m.seq+1, text
	return api.OK
}

// run does what the bytes of a script say with a twin and with the model, and holds one against the other.
func run(t *testing.T, script []byte) {
	t.Helper()
	d, m := disk.New(3), &model{d: disk.New(3)}
	var w *twin.Twin
	for i, x := range script {
		arg := int(x >> 3)
		switch x & 7 {
		case 0:
			m.at = arg%4 - 1
			w = nil
			wantErr(t, "Format", twin.Format(d, m.at), m.format())
		case 1, 2:
			got, e := twin.Open(d, m.at)
			w = got
			wantErr(t, "Open", e, m.open())
			if (w == nil) != (e != api.OK) {
				t.Fatalf("Open: %v, %d", w, e)
			}
		case 3, 4:
			text := strings.Repeat(string(x), 2*arg)
			if w != nil {
				wantErr(t, "Set", w.Set(text), m.set(text))
			}
		case 5:
			for _, d := range []*disk.Disk{d, m.d} {
				d.Arm(arg % 5)
			}
		case 6: // the script's next bytes are the fates
			for _, d := range []*disk.Disk{d, m.d} {
				again(d, script[i+1:min(i+3, len(script))]...)
			}
		case 7: // somebody else writes a sector: any bytes, or copies
			s := strings.Repeat(string(x), 128)[:128]
			if arg&4 == 0 {
				n := uint32(x) << (arg & 24)
				s = half(n, "s") + half(n+uint32(arg&1), "s")
			}
			for _, d := range []*disk.Disk{d, m.d} {
				d.Write(arg%3, s)
			}
		}
		wantLike(t, i, d, w, m)
	}
}

// wantLike holds all that can be seen of a twin and its disk against the model.
func wantLike(t *testing.T, step int, d *disk.Disk, w *twin.Twin, m *model) {
	t.Helper()
	if d.On() != m.d.On() {
		t.Fatalf("step %d: On %v", step, d.On())
	}
	for i := range d.Len() {
		got, e := d.Read(i)
		want, is := m.d.Read(i)
		if got != want || e != is {
			t.Fatalf("step %d: sector %d: %q, %d; want %q, %d", step, i, got, e, want, is)
		}
	}
	if w != nil {
		wantSays(t, w, uint64(m.seq), m.text)
	}
}

// TestLikeModel: P4.1 to P4.3. Many rows of calls.
func TestLikeModel(t *testing.T) {
	x := uint32(1)
	for range 5000 {
		script := []byte{8, 1}
		for range 60 {
			x = x*1664525 + 1013904223
			script = append(script, byte(x>>24))
		}
		run(t, script)
	}
}

// FuzzTwin: P4.1 to P4.3.
func FuzzTwin(f *testing.F) {
	f.Add([]byte{8, 1, 3 + 1<<3, 4 + 2<<3, 1, 5 + 2<<3, 3, 6, 70, 1})
	f.Add([]byte{16, 1, 7 + 1<<3, 7 + 2<<3, 1, 4 + 31<<3})
	f.Fuzz(func(t *testing.T, script []byte) {
		if len(script) <= 200 {
			run(t, script)
		}
	})
}
