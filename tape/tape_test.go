package tape_test

import (
	"math"
	"strings"
	"testing"
	"unsafe"

	"couplet/api"
	"couplet/disk"
	"couplet/tape"
	"couplet/twin"
	"couplet/wire"
)

const (
	ring  = 3       // the ring's first sector: tapes lie at 1 here
	stamp = 1 << 40 // positions end here
	top   = 1<<32 - 1
)

var (
	zeros   = strings.Repeat("\x00", api.Sector)
	other   = strings.Repeat("#", api.Sector)
	longest = strings.Repeat("m", api.MaxMeta)
)

// text tells n bytes, no two neighbours alike.
func text(n int) string {
	var b strings.Builder
	for i := range n {
		b.WriteByte(byte('a' + (i+i/26)%26))
	}
	return b.String()
}

// head tells a head's bytes.
func head(start, stable uint64, meta string) string {
	return wire.PutText(wire.PutNum(wire.PutNum("", start), stable), meta)
}

// wantErr holds what was answered against what was to be.
func wantErr(t *testing.T, what string, got, want api.Errno) {
	t.Helper()
	if got != want {
		t.Fatalf("%s: %d, want %d", what, got, want)
	}
}

// newDisk makes a disk for a tape of so many sectors at 1, with a sector behind it; all are other.
func newDisk(t *testing.T, sectors int) *disk.Disk {
	t.Helper()
	d := disk.New(ring + sectors + 1)
	for i := range d.Len() {
		wantErr(t, "Write", d.Write(i, other), api.OK)
	}
	wantErr(t, "Flush", d.Flush(), api.OK)
	return d
}

// newTape makes a disk, and a tape on it.
func newTape(t *testing.T, sectors int) (*disk.Disk, *tape.Tape) {
	t.Helper()
	d := newDisk(t, sectors)
	wantErr(t, "Format", tape.Format(d, 1, sectors), api.OK)
	return d, open(t, d, sectors)
}

// lying makes a disk whose tape has that head.
func lying(t *testing.T, sectors int, head string) *disk.Disk {
	t.Helper()
	d := newDisk(t, sectors)
	wantErr(t, "Format", tape.Format(d, 1, sectors), api.OK)
	w, e := twin.Open(d, 1)
	wantErr(t, "twin.Open", e, api.OK)
	wantErr(t, "Set", w.Set(head), api.OK)
	return d
}

// open opens the tape at 1.
func open(t *testing.T, d *disk.Disk, sectors int) *tape.Tape {
	t.Helper()
	p, e := tape.Open(d, 1, sectors)
	if e != api.OK || p == nil {
		t.Fatalf("Open: %v, %d", p, e)
	}
	return p
}

// wantNoOpen holds that none is opened.
func wantNoOpen(t *testing.T, d *disk.Disk, at, sectors int, want api.Errno) {
	t.Helper()
	if p, e := tape.Open(d, at, sectors); p != nil || e != want {
		t.Fatalf("Open(%d, %d): %v, %d; want error %d", at, sectors, p, e, want)
	}
}

// wantIs holds all that a tape tells: bytes are those from start on.
func wantIs(t *testing.T, p *tape.Tape, start, stable uint64, bytes, meta string) {
	t.Helper()
	end := start + uint64(len(bytes))
	if p.Start() != start || p.Stable() != stable || p.End() != end || p.Meta() != meta {
		t.Fatalf("%d, %d, %d, %q; want %d, %d, %d, %q", p.Start(), p.Stable(), p.End(), p.Meta(), start, stable, end, meta)
	}
	wantRead(t, p, start, len(bytes), bytes)
}

// wantRead holds what is read.
func wantRead(t *testing.T, p *tape.Tape, pos uint64, n int, want string) {
	t.Helper()
	if s, e := p.Read(pos, n); s != want || e != api.OK {
		t.Fatalf("Read(%d, %d): %q, %d; want %q", pos, n, s, e, want)
	}
}

// wantNoRead holds that nothing is read.
func wantNoRead(t *testing.T, p *tape.Tape, pos uint64, n int, want api.Errno) {
	t.Helper()
	if s, e := p.Read(pos, n); s != "" || e != want {
		t.Fatalf("Read(%d, %d): %q, %d; want error %d", pos, n, s, e, want)
	}
}

// wantRing holds what the ring's sectors are, and that what is ahead of the tape and behind it is other.
func wantRing(t *testing.T, d *disk.Disk, sectors ...string) {
	t.Helper()
	for i, want := range append([]string{other}, append(sectors, other)...) {
		at := i
		if i > 0 {
			at = i + ring - 1
		}
		if got, e := d.Read(at); e != api.OK || got != want {
			t.Fatalf("sector %d: %q, %d; want %q", at, got, e, want)
		}
	}
}

// wantHead holds what the tape's twin says.
func wantHead(t *testing.T, d *disk.Disk, seq uint64, text string) {
	t.Helper()
	w, e := twin.Open(d.Copy(), 1)
	if e != api.OK || w.Seq() != seq || w.Text() != text {
		t.Fatalf("the twin: %d, %q, %d; want %d, %q", w.Seq(), w.Text(), e, seq, text)
	}
}

// must appends, and flushes.
func must(t *testing.T, p *tape.Tape, s string) {
	t.Helper()
	wantErr(t, "Append", p.Append(s), api.OK)
	wantErr(t, "Flush", p.Flush(), api.OK)
}

// publish publishes.
func publish(t *testing.T, p *tape.Tape, start uint64, meta string) {
	t.Helper()
	wantErr(t, "Publish", p.Publish(start, meta), api.OK)
}

// again takes the power, and wakes.
func again(d *disk.Disk, fates ...uint8) {
	d.Off()
	d.Wake(fates)
}

// TestExamples: P5.1 to P5.4. The chapter's, one behind the other.
func TestExamples(t *testing.T) {
	d := disk.New(3)
	wantErr(t, "Format", tape.Format(d, 0, 1), api.OK)
	p, e := tape.Open(d, 0, 1)
	wantErr(t, "Open", e, api.OK)
	wantIs(t, p, 0, 0, "", "")

	wantErr(t, "Append(ab)", p.Append("ab"), api.OK)
	wantIs(t, p, 0, 0, "ab", "")
	wantRead(t, p, 0, 2, "ab")
	wantNoRead(t, p, 1, 2, api.ErrRange)

	wantErr(t, "Flush", p.Flush(), api.OK)
	wantIs(t, p, 0, 2, "ab", "")
	x := strings.Repeat("x", 126)
	wantErr(t, "Append of 126 x", p.Append(x), api.OK)
	wantErr(t, "Append(y)", p.Append("y"), api.ErrFull)

	publish(t, p, 2, "m")
	must(t, p, "yz")
	wantRead(t, p, 2, 3, "xxx")

	again(d)
	p, e = tape.Open(d, 0, 1)
	wantErr(t, "Open", e, api.OK)
	wantIs(t, p, 2, 130, x+"yz", "m")
	wantRead(t, p, 128, 2, "yz")
}

// TestExampleOfTheWhole: P5.5. What was not flushed is no more.
func TestExampleOfTheWhole(t *testing.T) {
	d, p := newTape(t, 1)
	must(t, p, "ab")
	wantErr(t, "Append(c)", p.Append("c"), api.OK)
	again(d)
	wantIs(t, open(t, d, 1), 0, 2, "ab", "")
}

// TestFormat: P5.1. The twin alone is written; what was published is no more.
func TestFormat(t *testing.T) {
	d, p := newTape(t, 2)
	wantRing(t, d, other, other)
	wantHead(t, d, 1, "")
	wantIs(t, p, 0, 0, "", "")
	must(t, p, text(200))
	publish(t, p, 7, "m")
	first, _ := d.Read(ring)
	last, _ := d.Read(ring + 1)
	wantErr(t, "Format", tape.Format(d, 1, 2), api.OK)
	again(d)
	wantRing(t, d, first, last)
	wantHead(t, d, 1, "")
	p = open(t, d, 2)
	wantIs(t, p, 0, 0, "", "")
	must(t, p, "x")
	wantRing(t, d, "x"+zeros[1:], last)
}

// TestFormatOff: P5.1. The power is off, or goes in any of the three operations.
func TestFormatOff(t *testing.T) {
	for n := 1; n <= 4; n++ {
		d := newDisk(t, 1)
		d.Arm(n)
		if n == 4 {
			wantErr(t, "Format", tape.Format(d, 1, 1), api.OK)
			wantErr(t, "Flush", d.Flush(), api.ErrOff)
			continue
		}
		wantErr(t, "Format", tape.Format(d, 1, 1), api.ErrOff)
		wantErr(t, "Format", tape.Format(d, 1, 1), api.ErrOff)
		wantErr(t, "Format", tape.Format(d, 1, 3), api.ErrArg)
	}
}

// TestPlaces: P5.1. Where no tape can lie; power that is off is asked for behind that.
func TestPlaces(t *testing.T) {
	for _, sectors := range []int{1, 2, 3, 4, 10, 4096} {
		d := disk.New(sectors)
		for _, x := range [][2]int{
			{-1, 1}, {math.MinInt, 1}, {0, 0}, {0, -1}, {0, math.MinInt}, {-1, -1},
			{0, sectors - 1}, {0, sectors}, {0, sectors + 1}, {0, math.MaxInt}, {0, math.MaxInt - 1}, {0, math.MaxInt - 2},
			{sectors - 2, 1}, {sectors - 1, 1}, {sectors, 1}, {math.MaxInt, 1}, {math.MaxInt - 1, 1}, {math.MaxInt - 3, 1},
			{math.MaxInt, math.MaxInt}, {1, sectors - 2}, {math.MinInt, math.MaxInt}, {-3, sectors},
			{math.MinInt, math.MinInt}, {math.MinInt + sectors - 3, 1}, {sectors - 3, math.MinInt},
		} {
			c := d.Copy()
			for range 2 {
				wantErr(t, "Format", tape.Format(c, x[0], x[1]), api.ErrArg)
				wantNoOpen(t, c, x[0], x[1], api.ErrArg)
				c.Off()
			}
		}
	}
	d := disk.New(4096)
	for _, x := range [][2]int{{0, 1}, {4093, 1}, {3, 4090}, {4093, 1}, {0, 4094}} {
		wantErr(t, "Format", tape.Format(d, x[0], x[1]), api.OK)
		p, e := tape.Open(d, x[0], x[1])
		wantErr(t, "Open", e, api.OK)
		s := text(x[1] * api.Sector)
		must(t, p, s)
		wantErr(t, "Append", p.Append("x"), api.ErrFull)
		p, e = tape.Open(d, x[0], x[1])
		wantErr(t, "Open", e, api.OK)
		wantIs(t, p, 0, uint64(len(s)), s, "")
	}
}

// TestNoDisk: P5.1. R3. Ahead of wrong places.
func TestNoDisk(t *testing.T) {
	for _, at := range []int{0, -1, math.MaxInt} {
		wantErr(t, "Format of none", tape.Format(nil, at, at), api.ErrNil)
		wantNoOpen(t, nil, at, at, api.ErrNil)
		for _, sectors := range []int{1, math.MaxInt} {
			wantErr(t, "Format of a disk that was not made", tape.Format(&disk.Disk{}, at, sectors), api.ErrArg)
			wantNoOpen(t, &disk.Disk{}, at, sectors, api.ErrArg)
		}
	}
}

// TestNoTape: P5.2 to P5.4. R3. Of one that was not opened, too.
func TestNoTape(t *testing.T) {
	for _, p := range []*tape.Tape{nil, {}} {
		for range 2 {
			if p.Start() != 0 || p.Stable() != 0 || p.End() != 0 || p.Meta() != "" {
				t.Fatal("none tells something")
			}
			for _, s := range []string{"", "ab"} {
				wantErr(t, "Append", p.Append(s), api.ErrNil)
			}
			for _, n := range []int{0, -1, 1} {
				wantNoRead(t, p, 0, n, api.ErrNil)
			}
			wantErr(t, "Flush", p.Flush(), api.ErrNil)
			wantErr(t, "Publish", p.Publish(0, ""), api.ErrNil)
			wantErr(t, "Publish", p.Publish(5, longest+"m"), api.ErrNil)
		}
	}
}

// TestOpenHeads: P5.1. What heads there are.
func TestOpenHeads(t *testing.T) {
	const n = 2 * api.Sector
	for _, x := range []struct {
		what, head    string
		start, stable uint64
		meta          string
	}{
		{"no text", "", 0, 0, ""},
		{"nothing", head(0, 0, ""), 0, 0, ""},
		{"a meta alone", head(0, 0, "m"), 0, 0, "m"},
		{"the longest meta", head(0, 0, longest), 0, 0, longest},
		{"a ring", head(0, n, ""), 0, n, ""},
		{"a ring from 300 on", head(300, 300+n, "\x00"), 300, 300 + n, "\x00"},
		{"none at 300", head(300, 300, "m"), 300, 300, "m"},
		{"at the end", head(stamp-1, stamp, longest), stamp - 1, stamp, longest},
		{"none at the end", head(stamp, stamp, "m"), stamp, stamp, "m"},
		{"a ring at the end", head(stamp-n, stamp, "m"), stamp - n, stamp, "m"},
	} {
		d := lying(t, 2, x.head)
		bytes := strings.Repeat("#", int(x.stable-x.start))
		wantIs(t, open(t, d, 2), x.start, x.stable, bytes, x.meta)
		wantRing(t, d, other, other)
		wantHead(t, d, 2, x.head)
	}
	for _, x := range []struct{ what, head string }{
		{"stable below start", head(1, 0, "")},
		{"stable below start, by far", head(stamp, 1, "")},
		{"start above all", head(math.MaxUint64, 5, "")},
		{"start above all", head(math.MaxUint64, math.MaxUint64, "")},
		{"above a ring", head(0, n+1, "")},
		{"above a ring from 300 on", head(300, 300+n+1, "")},
		{"above a ring, by far", head(0, math.MaxUint64, "")},
		{"above the end", head(stamp, stamp+1, "")},
		{"none above the end", head(stamp+1, stamp+1, "")},
		{"a meta too long", head(0, 0, longest+"m")},
		{"a meta far too long", head(0, 0, strings.Repeat("m", 52))},
		{"a byte behind", head(0, 0, "m") + "\x00"},
		{"a byte too few", head(0, 0, "m")[:3]},
		{"a number alone", "\x00"},
		{"two numbers", "\x00\x00"},
		{"one way too long to write a number", "\x80\x00\x00\x00"},
		{"another number, likewise", "\x00\x80\x00\x00"},
		{"a length, likewise", "\x00\x00\x80\x00"},
		{"any bytes", strings.Repeat("\xff", 55)},
		{"zeros", zeros[:55]},
	} {
		d := lying(t, 2, x.head)
		wantNoOpen(t, d, 1, 2, api.ErrBroken)
		wantRing(t, d, other, other)
		wantHead(t, d, 2, x.head)
	}
	d := lying(t, 2, head(0, 200, ""))
	wantNoOpen(t, d, 1, 1, api.ErrBroken)
	wantIs(t, open(t, d, 2), 0, 200, strings.Repeat("#", 200), "")
}

// TestOpenTwin: P5.1. What the twin's Open answers; what it mends.
func TestOpenTwin(t *testing.T) {
	wantNoOpen(t, newDisk(t, 1), 1, 1, api.ErrBroken)
	wantNoOpen(t, disk.New(8), 1, 1, api.ErrBroken)
	torn := other[1:] + "x"
	for n := 1; n <= 3; n++ {
		d := lying(t, 1, head(0, 1, "m"))
		wantErr(t, "Write", d.Write(2, torn), api.OK)
		wantErr(t, "Flush", d.Flush(), api.OK)
		d.Arm(n)
		if n == 3 {
			wantIs(t, open(t, d, 1), 0, 1, "#", "m")
			wantErr(t, "Flush", d.Flush(), api.ErrOff)
			continue
		}
		wantNoOpen(t, d, 1, 1, api.ErrOff)
		wantNoOpen(t, d, 1, 1, api.ErrOff)
		wantNoOpen(t, d, 1, 2+n, api.ErrArg)
		d.Wake(nil)
		wantIs(t, open(t, d, 1), 0, 1, "#", "m")
	}
	d := lying(t, 1, head(1, 0, ""))
	d.Off()
	wantNoOpen(t, d, 1, 1, api.ErrOff)
}

// TestOpenRing: P5.1. Which bytes of the ring are those of which positions; no operation.
func TestOpenRing(t *testing.T) {
	s := text(3 * api.Sector)
	for _, x := range [][2]uint64{{0, 384}, {0, 1}, {127, 129}, {130, 250}, {200, 584}, {383, 384}, {384, 385}, {383, 767}, {1000, 1100}, {3840, 4000}, {stamp - 384, stamp}, {stamp - 1, stamp}} {
		d := lying(t, 3, head(x[0], x[1], "m"))
		for i := range 3 {
			wantErr(t, "Write", d.Write(ring+i, s[i*api.Sector:(i+1)*api.Sector]), api.OK)
		}
		wantErr(t, "Flush", d.Flush(), api.OK)
		var want strings.Builder
		for pos := x[0]; pos < x[1]; pos++ {
			want.WriteByte(s[pos%384])
		}
		d.Arm(1)
		p := open(t, d, 3)
		wantIs(t, p, x[0], x[1], want.String(), "m")
		wantErr(t, "Flush", p.Flush(), api.OK)
		if !d.On() {
			t.Fatal("an Open takes an operation")
		}
	}
}

// TestRead: P5.2. From start to end, whatever is published; sums must not wrap round.
func TestRead(t *testing.T) {
	_, p := newTape(t, 3)
	s := text(900)
	must(t, p, s[:300])
	publish(t, p, 290, "")
	must(t, p, s[300:600])
	wantErr(t, "Append", p.Append(s[600:674]), api.OK)
	wantIs(t, p, 290, 600, s[290:674], "")
	for pos := uint64(290); pos <= 674; pos++ {
		for n := range 674 - int(pos) + 1 {
			if got, e := p.Read(pos, n); got != s[pos:int(pos)+n] || e != api.OK {
				t.Fatalf("Read(%d, %d): %q, %d", pos, n, got, e)
			}
		}
	}
	for _, x := range []struct {
		pos uint64
		n   int
	}{
		{290, -1}, {674, -1}, {290, math.MinInt}, {291, -1}, {400, -100},
		{289, 0}, {289, 1}, {0, 0}, {0, 674}, {0, 300},
		{290, 385}, {674, 1}, {675, 0}, {675, -1}, {673, 2}, {290, math.MaxInt}, {674, math.MaxInt},
		{math.MaxUint64, 0}, {math.MaxUint64, 1}, {math.MaxUint64, 300}, {math.MaxUint64 - 1, 400}, {math.MaxUint64, math.MaxInt}, {1 << 63, math.MaxInt}, {1 << 63, math.MinInt}, {math.MaxUint64, math.MinInt},
	} {
		wantNoRead(t, p, x.pos, x.n, api.ErrRange)
	}
	wantIs(t, p, 290, 600, s[290:674], "")
}

// TestAppend: P5.3. No more than the ring has, whatever is published; nothing has changed beside an error; no operation, and none is missed while the power is off.
func TestAppend(t *testing.T) {
	d, p := newTape(t, 2)
	d.Arm(1)
	s := text(256)
	wantErr(t, "Append", p.Append(""), api.OK)
	wantErr(t, "Append", p.Append(s+"x"), api.ErrFull)
	wantErr(t, "Append", p.Append(strings.Repeat(s, 9)), api.ErrFull)
	wantIs(t, p, 0, 0, "", "")
	for i := range 255 {
		wantErr(t, "Append", p.Append(s[i:i+1]), api.OK)
	}
	wantErr(t, "Append", p.Append("xy"), api.ErrFull)
	wantIs(t, p, 0, 0, s[:255], "")
	wantErr(t, "Append", p.Append(s[255:]), api.OK)
	wantErr(t, "Append", p.Append("x"), api.ErrFull)
	wantErr(t, "Append", p.Append(""), api.OK)
	wantIs(t, p, 0, 0, s, "")
	wantRing(t, d, other, other)
	if !d.On() {
		t.Fatal("an Append takes an operation")
	}
	d.Arm(0)
	wantErr(t, "Flush", p.Flush(), api.OK)
	wantErr(t, "Append", p.Append("x"), api.ErrFull)
	publish(t, p, 10, "")
	d.Off()
	wantErr(t, "Append", p.Append(s[:11]), api.ErrFull)
	wantErr(t, "Append", p.Append(s[:10]), api.OK)
	wantIs(t, p, 10, 256, s[10:]+s[:10], "")
	d.Wake(nil)
	wantErr(t, "Flush", p.Flush(), api.OK)
	wantIs(t, open(t, d, 2), 10, 266, s[10:]+s[:10], "")
}

// TestAppendAtTheEnd: P5.3. Positions end; a ring that is too small is told ahead of that.
func TestAppendAtTheEnd(t *testing.T) {
	d := lying(t, 1, head(stamp-100, stamp-50, "m"))
	was := other[:50]
	p := open(t, d, 1)
	wantErr(t, "Append", p.Append(text(51)), api.ErrSpace)
	wantErr(t, "Append", p.Append(text(78)), api.ErrSpace)
	wantErr(t, "Append", p.Append(text(79)), api.ErrFull)
	wantIs(t, p, stamp-100, stamp-50, was, "m")
	must(t, p, text(50))
	wantIs(t, p, stamp-100, stamp, was+text(50), "m")
	for range 2 {
		wantErr(t, "Append", p.Append("x"), api.ErrSpace)
		wantErr(t, "Append", p.Append(text(29)), api.ErrFull)
		wantErr(t, "Append", p.Append(""), api.OK)
		wantErr(t, "Flush", p.Flush(), api.OK)
		wantIs(t, p, stamp-100, stamp, was+text(50), "m")
		p = open(t, d, 1)
	}
	publish(t, p, stamp, "")
	wantErr(t, "Append", p.Append("x"), api.ErrSpace)
	wantErr(t, "Append", p.Append(text(129)), api.ErrFull)
	wantIs(t, open(t, d, 1), stamp, stamp, "", "")
}

// TestFlush: P5.4. What the ring's sectors become, flushed: bytes at their places, zeros where there are none; the others stay.
func TestFlush(t *testing.T) {
	s := text(1000)
	d, p := newTape(t, 3)
	must(t, p, s[:10])
	wantRing(t, d, s[:10]+zeros[10:], other, other)
	wantHead(t, d, 2, head(0, 10, ""))
	must(t, p, s[10:128])
	wantRing(t, d, s[:128], other, other)
	must(t, p, s[128:300])
	wantRing(t, d, s[:128], s[128:256], s[256:300]+zeros[44:])
	publish(t, p, 129, "m")
	wantRing(t, d, s[:128], s[128:256], s[256:300]+zeros[44:])
	wantHead(t, d, 5, head(129, 300, "m"))
	must(t, p, s[300:390])
	wantRing(t, d, s[384:390]+zeros[6:], s[128:256], s[256:384])
	must(t, p, s[390:513])
	wantRing(t, d, s[384:512], s[512:513]+s[129:256], s[256:384])
	wantHead(t, d, 7, head(129, 513, "m"))
	publish(t, p, 200, "")
	must(t, p, s[513:520])
	wantRing(t, d, s[384:512], s[512:520]+zeros[8:72]+s[200:256], s[256:384])
	again(d)
	wantRing(t, d, s[384:512], s[512:520]+zeros[8:72]+s[200:256], s[256:384])
	p = open(t, d, 3)
	wantIs(t, p, 200, 520, s[200:520], "")
	publish(t, p, 520, "x")
	must(t, p, s[520:521])
	wantRing(t, d, s[384:512], zeros[:8]+s[520:521]+zeros[9:], s[256:384])
	wantIs(t, open(t, d, 3), 520, 521, s[520:521], "x")
}

// TestFlushAll: P5.4. A tape as long as its ring, from the middle of a sector on: that sector is laid once, whole.
func TestFlushAll(t *testing.T) {
	s := text(1000)
	for sectors := 1; sectors <= 3; sectors++ {
		n := sectors * api.Sector
		for _, start := range []int{1, 50, 127, 128, 129, 300} {
			d := lying(t, sectors, head(uint64(start), uint64(start), "m"))
			p := open(t, d, sectors)
			d.Arm(sectors + 4)
			must(t, p, s[start:start+n])
			wantErr(t, "Flush of the disk", d.Flush(), api.ErrOff)
			d.Wake(nil)
			want := make([]byte, n)
			for pos := start; pos < start+n; pos++ {
				want[pos%n] = s[pos]
			}
			var l []string
			for i := range sectors {
				l = append(l, string(want[i*api.Sector:(i+1)*api.Sector]))
			}
			wantRing(t, d, l...)
			wantIs(t, open(t, d, sectors), uint64(start), uint64(start+n), s[start:start+n], "m")
		}
	}
}

// TestFlushOrder: P5.4. The operations of a Flush, one by one: sectors in the order of the positions, each once, the flush, and the twin's two.
func TestFlushOrder(t *testing.T) {
	s := text(2000)
	for _, x := range []struct {
		start, stable, end int
		order              []int
	}{
		{0, 0, 1, []int{0}},
		{0, 100, 128, []int{0}},
		{0, 100, 129, []int{0, 1}},
		{0, 128, 129, []int{1}},
		{0, 0, 512, []int{0, 1, 2, 3}},
		{300, 300, 600, []int{2, 3, 0}},
		{300, 300, 640, []int{2, 3, 0}},
		{300, 300, 641, []int{2, 3, 0, 1}},
		{300, 300, 812, []int{2, 3, 0, 1}},
		{300, 310, 812, []int{2, 3, 0, 1}},
		{300, 384, 812, []int{3, 0, 1, 2}},
		{300, 383, 812, []int{2, 3, 0, 1}},
		{300, 511, 769, []int{3, 0, 1, 2}},
		{511, 511, 1023, []int{3, 0, 1, 2}},
		{512, 512, 1024, []int{0, 1, 2, 3}},
		{800, 1000, 1100, []int{3, 0}},
	} {
		base := lying(t, 4, head(uint64(x.start), uint64(x.stable), ""))
		for n := range len(x.order) + 4 {
			d := base.Copy()
			p := open(t, d, 4)
			wantErr(t, "Append", p.Append(s[x.stable:x.end]), api.OK)
			d.Arm(n + 1)
			want := api.ErrOff
			if n == len(x.order)+3 {
				want = api.OK
			}
			wantErr(t, "Flush", p.Flush(), want)
			kept := d.Copy()
			again(kept, 1, 1, 1, 1)
			lost := d.Copy()
			again(lost)
			laid := map[int]bool{}
			for _, i := range x.order[:min(n, len(x.order))] {
				laid[i] = true
			}
			for i := range 4 {
				wantLaid(t, kept, i, laid[i])
				wantLaid(t, lost, i, laid[i] && n > len(x.order))
			}
		}
	}
}

// wantLaid holds whether the ring's sector i was laid.
func wantLaid(t *testing.T, d *disk.Disk, i int, want bool) {
	t.Helper()
	if s, _ := d.Read(ring + i); (s != other) != want {
		t.Fatalf("sector %d of the ring: %q", i, s)
	}
}

// TestFlushNothing: P5.4. If all is published, no operation; power that is off is not missed.
func TestFlushNothing(t *testing.T) {
	d, p := newTape(t, 1)
	d.Arm(1)
	wantErr(t, "Flush", p.Flush(), api.OK)
	wantHead(t, d, 1, "")
	d.Arm(0)
	must(t, p, "ab")
	d.Arm(1)
	wantErr(t, "Flush", p.Flush(), api.OK)
	wantErr(t, "Append", p.Append(""), api.OK)
	wantErr(t, "Flush", p.Flush(), api.OK)
	wantHead(t, d, 2, head(0, 2, ""))
	d.Off()
	wantErr(t, "Flush", p.Flush(), api.OK)
	wantErr(t, "Append", p.Append("c"), api.OK)
	d.Wake(nil)
	wantErr(t, "Flush", p.Flush(), api.OK)
	wantIs(t, open(t, d, 1), 0, 3, "abc", "")
}

// TestPublish: P5.4. Start and meta are these, flushed, in two operations; what is appended is not published by it.
func TestPublish(t *testing.T) {
	d, p := newTape(t, 1)
	must(t, p, "abcdef")
	wantErr(t, "Append", p.Append("ghi"), api.OK)
	first, _ := d.Read(ring)
	for i, x := range []struct {
		start uint64
		meta  string
	}{{0, ""}, {0, "m"}, {2, "m"}, {2, ""}, {3, longest}, {3, "\x00\xff"}, {6, "n"}, {6, "n"}} {
		d.Arm(3)
		publish(t, p, x.start, x.meta)
		wantErr(t, "Flush of the disk", d.Flush(), api.ErrOff)
		d.Wake(nil)
		wantIs(t, p, x.start, 6, "abcdefghi"[x.start:], x.meta)
		wantHead(t, d, uint64(3+i), head(x.start, 6, x.meta))
		wantIs(t, open(t, d, 1), x.start, 6, "abcdef"[x.start:], x.meta)
		wantRing(t, d, first)
	}
	wantErr(t, "Flush", p.Flush(), api.OK)
	wantRing(t, d, zeros[:6]+"ghi"+zeros[9:])
	wantIs(t, open(t, d, 1), 6, 9, "ghi", "n")
}

// TestPublishWrong: P5.4. Starts and metas that may not be, in that order, and ahead of power that is off; nothing has changed.
func TestPublishWrong(t *testing.T) {
	d, p := newTape(t, 1)
	must(t, p, text(100))
	publish(t, p, 20, "m")
	wantErr(t, "Append", p.Append("xyz"), api.OK)
	for range 2 {
		for _, start := range []uint64{0, 19, 101, 103, 104, stamp, math.MaxUint64} {
			for _, meta := range []string{"", longest, longest + "m"} {
				wantErr(t, "Publish", p.Publish(start, meta), api.ErrArg)
			}
		}
		for _, start := range []uint64{20, 21, 100} {
			wantErr(t, "Publish", p.Publish(start, longest+"m"), api.ErrLong)
			wantErr(t, "Publish", p.Publish(start, strings.Repeat("m", 256)), api.ErrLong)
		}
		wantIs(t, p, 20, 100, text(100)[20:]+"xyz", "m")
		d.Off()
	}
	d.Wake(nil)
	wantHead(t, d, 3, head(20, 100, "m"))
	publish(t, p, 100, longest)
	wantIs(t, p, 100, 100, "xyz", longest)
}

// wantOver holds that a tape is over, and tells what it told ahead.
func wantOver(t *testing.T, d *disk.Disk, p *tape.Tape, start, stable, end uint64, meta string) {
	t.Helper()
	d.Arm(1)
	on := d.On()
	for range 2 {
		for _, s := range []string{"", "x", text(1000)} {
			wantErr(t, "Append, over", p.Append(s), api.ErrOff)
		}
		for _, n := range []int{0, 1, -1, 1000} {
			wantNoRead(t, p, start, n, api.ErrOff)
			wantNoRead(t, p, 0, n, api.ErrOff)
		}
		wantErr(t, "Flush, over", p.Flush(), api.ErrOff)
		wantErr(t, "Publish, over", p.Publish(start, meta), api.ErrOff)
		wantErr(t, "Publish, over", p.Publish(end+1, meta), api.ErrOff)
		wantErr(t, "Publish, over", p.Publish(start, longest+"m"), api.ErrOff)
	}
	if p.Start() != start || p.Stable() != stable || p.End() != end || p.Meta() != meta {
		t.Fatalf("over: %d, %d, %d, %q", p.Start(), p.Stable(), p.End(), p.Meta())
	}
	if d.On() != on {
		t.Fatal("a tape that is over takes an operation")
	}
	d.Arm(0)
}

// TestOver: P5.4. Behind an ErrOff all answer ErrOff, though the power is back, and there would be nothing to do, or an error; opened anew, it goes on.
func TestOver(t *testing.T) {
	calls := map[string]func(p *tape.Tape) api.Errno{
		"Flush":   func(p *tape.Tape) api.Errno { return p.Flush() },
		"Publish": func(p *tape.Tape) api.Errno { return p.Publish(7, "n") },
	}
	for name, call := range calls {
		for n := range 5 { // 0: the power is off ahead of it
			d, p := newTape(t, 1)
			must(t, p, text(20))
			publish(t, p, 5, "m")
			wantErr(t, "Append", p.Append("xyz"), api.OK)
			d.Arm(n)
			if n == 0 {
				d.Off()
			}
			if name == "Publish" && n > 2 {
				continue
			}
			wantErr(t, name, call(p), api.ErrOff)
			wantOver(t, d, p, 5, 20, 23, "m")
			d.Wake(nil)
			wantOver(t, d, p, 5, 20, 23, "m")
			q := open(t, d, 1)
			wantIs(t, q, 5, 20, text(20)[5:], "m")
			must(t, q, "x")
			publish(t, q, 20, "n")
			wantOver(t, d, p, 5, 20, 23, "m")
			wantIs(t, open(t, d, 1), 20, 21, "x", "n")
		}
	}
}

// TestNotOver: P5.4. Power that went while the tape asked for none is no hindrance, nor is any other error.
func TestNotOver(t *testing.T) {
	d, p := newTape(t, 1)
	must(t, p, "ab")
	wantErr(t, "Append", p.Append("c"), api.OK)
	d.Off()
	wantErr(t, "Append", p.Append("d"), api.OK)
	wantErr(t, "Append", p.Append(text(128)), api.ErrFull)
	wantRead(t, p, 0, 4, "abcd")
	wantNoRead(t, p, 0, 5, api.ErrRange)
	wantErr(t, "Publish", p.Publish(3, ""), api.ErrArg)
	wantErr(t, "Publish", p.Publish(2, longest+"m"), api.ErrLong)
	d.Wake(nil)
	publish(t, p, 1, "m")
	wantErr(t, "Flush", p.Flush(), api.OK)
	wantIs(t, open(t, d, 1), 1, 4, "bcd", "m")
}

// atTop makes a disk whose tape's twin can be set so many times.
func atTop(t *testing.T, sets uint32) *disk.Disk {
	t.Helper()
	d := newDisk(t, 1)
	wantErr(t, "Format", tape.Format(d, 1, 1), api.OK)
	n := top - sets
	half := string([]byte{byte(n >> 24), byte(n >> 16), byte(n >> 8), byte(n)}) + strings.Repeat("\x00", 60)
	wantErr(t, "Write", d.Write(1+int(n%2), half+half), api.OK)
	wantErr(t, "Flush", d.Flush(), api.OK)
	return d
}

// TestTwinAtTheEnd: P5.4. The twin's ErrSpace is the answer: the sectors are laid, and flushed, by then; the tape is as it was, and not over.
func TestTwinAtTheEnd(t *testing.T) {
	d := atTop(t, 1)
	p := open(t, d, 1)
	must(t, p, "ab")
	wantErr(t, "Append", p.Append("cd"), api.OK)
	for range 2 {
		wantErr(t, "Flush", p.Flush(), api.ErrSpace)
		wantErr(t, "Publish", p.Publish(1, "m"), api.ErrSpace)
		wantErr(t, "Publish", p.Publish(3, "m"), api.ErrArg)
		wantIs(t, p, 0, 2, "abcd", "")
	}
	again(d.Copy())
	wantRing(t, d, "abcd"+zeros[4:])
	wantHead(t, d, top, head(0, 2, ""))
	wantErr(t, "Append", p.Append("e"), api.OK)
	wantIs(t, p, 0, 2, "abcde", "")
	d.Arm(3)
	wantErr(t, "Flush", p.Flush(), api.ErrSpace)
	wantErr(t, "Flush", p.Flush(), api.ErrOff)
	wantOver(t, d, p, 0, 2, 5, "")
	d.Wake(nil)
	wantIs(t, open(t, d, 1), 0, 2, "ab", "")
}

// TestTapesApart: two tapes on one disk, and two disks that were one, go their own ways.
func TestTapesApart(t *testing.T) {
	d := disk.New(6)
	var l []*tape.Tape
	for _, at := range []int{0, 3} {
		wantErr(t, "Format", tape.Format(d, at, 1), api.OK)
		p, e := tape.Open(d, at, 1)
		wantErr(t, "Open", e, api.OK)
		must(t, p, text(at+1))
		l = append(l, p)
	}
	c := d.Copy()
	must(t, l[0], "x")
	publish(t, l[1], 1, "m")
	wantIs(t, l[0], 0, 2, "ax", "")
	wantIs(t, l[1], 1, 4, "bcd", "m")
	for i, at := range []int{0, 3} {
		p, e := tape.Open(c, at, 1)
		wantErr(t, "Open", e, api.OK)
		wantIs(t, p, 0, uint64(at+1), text(at+1), "")
		p, e = tape.Open(d, at, 1)
		wantErr(t, "Open", e, api.OK)
		wantIs(t, p, l[i].Start(), l[i].Stable(), []string{"ax", "bcd"}[i], l[i].Meta())
	}
}

// TestNotKept: R5. Texts that are handed in are not kept; what is answered is new.
func TestNotKept(t *testing.T) {
	d, p := newTape(t, 1)
	s, m := []byte("abc"), []byte("mno")
	must(t, p, unsafe.String(&s[0], 3))
	publish(t, p, 1, unsafe.String(&m[0], 3))
	clear(s)
	clear(m)
	wantIs(t, p, 1, 3, "bc", "mno")
	must(t, p, "d")
	wantIs(t, open(t, d, 1), 1, 4, "bcd", "mno")
	meta, read := p.Meta(), ""
	if unsafe.StringData(meta) == unsafe.StringData(p.Meta()) {
		t.Error("two metas share memory")
	}
	read, _ = p.Read(1, 3)
	if again, _ := p.Read(1, 3); unsafe.StringData(read) == unsafe.StringData(again) {
		t.Error("two answers share memory")
	}
	publish(t, p, 4, "")
	must(t, p, text(128))
	if read != "bcd" || meta != "mno" {
		t.Errorf("%q, %q: changed with the tape", read, meta)
	}
}

// change is a Flush, or a Publish, of a tape at 1.
type change struct {
	sectors            int
	start, stable, end uint64
	flush              bool
	newStart           uint64 // of a Publish
}

// was tells the tape as it was published ahead: its bytes are those of text.
func (c change) was(t *testing.T, s string) (*disk.Disk, *tape.Tape) {
	t.Helper()
	d := lying(t, c.sectors, head(c.start, c.start, "old"))
	p := open(t, d, c.sectors)
	must(t, p, s[c.start:c.stable])
	p = open(t, d, c.sectors)
	wantErr(t, "Append", p.Append(s[c.stable:c.end]), api.OK)
	return d, p
}

// do does it.
func (c change) do(p *tape.Tape) api.Errno {
	if c.flush {
		return p.Flush()
	}
	return p.Publish(c.newStart, "new")
}

// fatesOf goes through rows of n fates, each one of some.
func fatesOf(n int, some []uint8, yield func([]uint8)) {
	fates := make([]uint8, n)
	var fill func(i int)
	fill = func(i int) {
		if i == n {
			yield(fates)
			return
		}
		for _, f := range some {
			fates[i] = f
			fill(i + 1)
		}
	}
	fill(0)
}

// holdOneOfTwo holds that a tape is as ahead of a change, or as behind it; the power goes in the Open's mending, too.
func (c change) holdOneOfTwo(t *testing.T, d *disk.Disk, s string) {
	t.Helper()
	for n := 1; n <= 4; n++ {
		off := d.Copy()
		off.Arm(n)
		if _, e := tape.Open(off, 1, c.sectors); e == api.OK {
			break
		}
		for _, f := range []uint8{0, 1, 2, 64, 70, 127} {
			o := off.Copy()
			o.Wake([]uint8{f, f ^ 0x55})
			c.holdNow(t, o, s)
		}
	}
	c.holdNow(t, d, s)
}

func (c change) holdNow(t *testing.T, d *disk.Disk, s string) {
	t.Helper()
	p := open(t, d, c.sectors)
	switch {
	case p.Meta() == "new" && !c.flush:
		wantIs(t, p, c.newStart, c.stable, s[c.newStart:c.stable], "new")
	case p.Stable() == c.end && c.flush:
		wantIs(t, p, c.start, c.end, s[c.start:c.end], "old")
	default:
		wantIs(t, p, c.start, c.stable, s[c.start:c.stable], "old")
	}
}

// TestAllOrNothing: P5.5. Wherever the power goes in a Flush or a Publish, whatever becomes of unflushed writes.
func TestAllOrNothing(t *testing.T) {
	s := text(1000)
	for _, c := range []change{
		{1, 0, 0, 1, true, 0},
		{1, 0, 100, 101, true, 0},
		{1, 0, 100, 128, true, 0},
		{1, 50, 60, 178, true, 0},
		{1, 50, 150, 178, true, 0},
		{1, 50, 128, 178, true, 0},
		{2, 100, 130, 300, true, 0},
		{2, 100, 130, 356, true, 0},
		{2, 130, 260, 380, true, 0},
		{2, 130, 140, 386, true, 0},
		{3, 200, 500, 584, true, 0},
		{3, 200, 210, 584, true, 0},
		{3, 200, 512, 580, true, 0},
		{1, 0, 0, 0, false, 0},
		{1, 0, 100, 128, false, 0},
		{1, 0, 100, 128, false, 50},
		{1, 0, 100, 128, false, 100},
		{2, 130, 380, 386, false, 300},
		{3, 200, 584, 584, false, 584},
	} {
		ops := 2
		if c.flush {
			first, last := c.stable/api.Sector, (c.end-1)/api.Sector
			ops = min(int(last-first)+1, c.sectors) + 3
		}
		for n := 1; n <= ops; n++ {
			base, p := c.was(t, s)
			base.Arm(n)
			wantErr(t, "the change", c.do(p), api.ErrOff)
			some := []uint8{0, 1, 2, 10, 50, 64, 100, 127}
			if c.sectors == 1 {
				some = every
			}
			writes := min(n-1, c.sectors)
			if !c.flush || n == ops {
				writes = 1
			}
			fatesOf(writes, some, func(fates []uint8) {
				d := base.Copy()
				d.Wake(fates)
				c.holdOneOfTwo(t, d, s)
			})
		}
		d, p := c.was(t, s)
		d.Arm(ops + 1)
		wantErr(t, "the change", c.do(p), api.OK)
		again(d)
		q := open(t, d, c.sectors)
		if c.flush {
			wantIs(t, q, c.start, c.end, s[c.start:c.end], "old")
		} else {
			wantIs(t, q, c.newStart, c.stable, s[c.newStart:c.stable], "new")
		}
	}
}

// every fate of a write.
var every = func() []uint8 {
	l := make([]uint8, 128)
	for i := range l {
		l[i] = uint8(i)
	}
	return l
}()

// TestOften: P5.5. Changes in a row, the power going in any of them, and in the Opens between; what is published only goes on.
func TestOften(t *testing.T) {
	x := uint32(1)
	next := func(n int) int {
		x = x*1664525 + 1013904223
		return int(x>>16) % n
	}
	const sectors = 3
	d, p := newTape(t, sectors)
	all := "" // of what was appended, and may be published
	for i := range 20000 {
		start, stable, meta := p.Start(), p.Stable(), p.Meta()
		s := strings.Repeat(string(rune('a'+i%26)), next(150))
		if p.Append(s) == api.OK {
			all += s
		}
		d.Arm(next(9))
		e, to, says := api.OK, start, meta
		if next(2) == 0 {
			e = p.Flush()
		} else {
			to, says = start+uint64(next(int(stable-start)+1)), string(rune('a'+i%26))
			e = p.Publish(to, says)
		}
		if e == api.OK {
			wantIs(t, p, to, p.Stable(), all[to:], says)
			continue
		}
		for e != api.OK {
			wantErr(t, "the change, or the Open", e, api.ErrOff)
			again(d, uint8(next(256)), uint8(next(256)), uint8(next(256)))
			d.Arm(next(4))
			p, e = tape.Open(d, 1, sectors)
		}
		old := p.Start() == start && p.Stable() == stable && p.Meta() == meta
		flushed := p.Start() == start && p.Stable() == uint64(len(all)) && p.Meta() == meta
		published := p.Start() == to && p.Stable() == stable && p.Meta() == says
		if !old && !flushed && !published {
			t.Fatalf("%d: %d, %d, %q", i, p.Start(), p.Stable(), p.Meta())
		}
		all = all[:p.Stable()]
		wantIs(t, p, p.Start(), p.Stable(), all[p.Start():], p.Meta())
	}
}

// model is a tape by another way than the program's: its bytes are a text, and a sector is built of all positions that have a place in it.
type model struct {
	d             *disk.Disk
	at, n         int
	w             *twin.Twin
	start, stable uint64
	bytes         string // from start on
	meta          string
	over          bool
}

func (m *model) end() uint64 { return m.start + uint64(len(m.bytes)) }

func (m *model) size() int { return m.n * api.Sector }

func (m *model) lies() bool { return m.at >= 0 && m.n >= 1 && m.at+2+m.n <= m.d.Len() }

func (m *model) format() api.Errno {
	if !m.lies() {
		return api.ErrArg
	}
	return twin.Format(m.d, m.at)
}

func (m *model) open() api.Errno {
	if !m.lies() {
		return api.ErrArg
	}
	w, e := twin.Open(m.d, m.at)
	if e != api.OK {
		return e
	}
	*m = model{d: m.d, at: m.at, n: m.n, w: w}
	if w.Text() != "" {
		r := wire.NewReader(w.Text())
		m.start, m.stable, m.meta = r.Num(), r.Num(), r.Text()
		if !r.End() || len(m.meta) > 32 || m.stable > stamp || m.start > m.stable || m.start+uint64(m.size()) < m.stable {
			return api.ErrBroken
		}
	}
	for pos := m.start; pos < m.stable; pos++ {
		place := int(pos % uint64(m.size()))
		s, _ := m.d.Read(m.at + 2 + place/api.Sector)
		m.bytes += s[place%api.Sector : place%api.Sector+1]
	}
	return api.OK
}

func (m *model) append(s string) api.Errno {
	switch {
	case m.over:
		return api.ErrOff
	case len(m.bytes)+len(s) > m.size():
		return api.ErrFull
	case m.end()+uint64(len(s)) > stamp:
		return api.ErrSpace
	}
	m.bytes += s
	return api.OK
}

func (m *model) read(pos uint64, n int) (string, api.Errno) {
	from := int(pos - m.start)
	switch {
	case m.over:
		return "", api.ErrOff
	case n < 0, from < 0, from+n > len(m.bytes):
		return "", api.ErrRange
	}
	return m.bytes[from : from+n], api.OK
}

func (m *model) sector(i int) string {
	b := []byte(zeros)
	for j := range len(m.bytes) {
		place := int((m.start + uint64(j)) % uint64(m.size()))
		if place/api.Sector == i {
			b[place%api.Sector] = m.bytes[j]
		}
	}
	return string(b)
}

// ends makes what was answered be the answer, and the tape be over, if it is to be.
func (m *model) ends(e api.Errno) api.Errno {
	m.over = m.over || e == api.ErrOff
	return e
}

func (m *model) flush() api.Errno {
	switch {
	case m.over:
		return api.ErrOff
	case m.end() == m.stable:
		return api.OK
	}
	laid := map[int]bool{}
	for pos := m.stable; pos < m.end(); pos++ {
		i := int(pos % uint64(m.size()) / api.Sector)
		if laid[i] {
			continue
		}
		laid[i] = true
		if e := m.d.Write(m.at+2+i, m.sector(i)); e != api.OK {
			return m.ends(e)
		}
	}
	if e := m.d.Flush(); e != api.OK {
		return m.ends(e)
	}
	if e := m.w.Set(head(m.start, m.end(), m.meta)); e != api.OK {
		return m.ends(e)
	}
	m.stable = m.end()
	return api.OK
}

func (m *model) publish(start uint64, meta string) api.Errno {
	switch {
	case m.over:
		return api.ErrOff
	case start < m.start, start > m.stable:
		return api.ErrArg
	case len(meta) > 32:
		return api.ErrLong
	}
	if e := m.w.Set(head(start, m.stable, meta)); e != api.OK {
		return m.ends(e)
	}
	m.bytes = m.bytes[start-m.start:]
	m.start, m.meta = start, meta
	return api.OK
}

// hand takes a script's bytes, one by one; behind its end they are 0.
type hand struct{ rest []byte }

func (h *hand) next() int {
	if len(h.rest) == 0 {
		return 0
	}
	x := int(h.rest[0])
	h.rest = h.rest[1:]
	return x
}

// both does the same with two disks.
func both(d *disk.Disk, m *model, do func(d *disk.Disk)) {
	do(d)
	do(m.d)
}

// run does what the bytes of a script say with a tape and with the model, and holds one against the other.
func run(t *testing.T, script []byte) {
	t.Helper()
	d, m := disk.New(7), &model{d: disk.New(7), at: 1, n: 3}
	var p *tape.Tape
	h := &hand{script}
	for step := 0; len(h.rest) > 0; step++ {
		p = runDisk(t, h, d, m, p)
		if p != nil {
			runTape(t, h, p, m)
		}
		wantLike(t, step, d, p, m)
	}
}

// runDisk does what is done with the disk, mostly nothing; it tells the tape that is open then.
func runDisk(t *testing.T, h *hand, d *disk.Disk, m *model, p *tape.Tape) *tape.Tape {
	t.Helper()
	switch x := h.next(); x % 32 {
	case 0:
		m.at, m.n = h.next()%6-1, h.next()%5-1
		wantErr(t, "Format", tape.Format(d, m.at, m.n), m.format())
		fallthrough
	case 1, 2, 3:
		q, e := tape.Open(d, m.at, m.n)
		wantErr(t, "Open", e, m.open())
		if (q == nil) != (e != api.OK) {
			t.Fatalf("Open: %v, %d", q, e)
		}
		return q
	case 4, 5:
		n := h.next() % 8
		both(d, m, func(d *disk.Disk) { d.Arm(n) })
	case 6:
		both(d, m, func(d *disk.Disk) { d.Off() })
	case 7, 8:
		fates := []uint8{uint8(h.next()), uint8(h.next()), uint8(h.next())}
		both(d, m, func(d *disk.Disk) { again(d, fates...) })
	case 9: // somebody sets a head
		start := uint64(h.next() * 5)
		if x > 128 {
			start = stamp - start
		}
		s := head(start, start+uint64(h.next()*2-9), strings.Repeat("h", h.next()%36))
		both(d, m, func(d *disk.Disk) {
			if w, e := twin.Open(d, max(m.at, 0)); e == api.OK {
				w.Set(s)
			}
		})
		return nil
	}
	return p
}

// runTape does what is done with a tape.
func runTape(t *testing.T, h *hand, p *tape.Tape, m *model) {
	t.Helper()
	x, arg := h.next(), h.next()
	switch x % 8 {
	case 0, 1, 2:
		s := text(x + arg)[x:]
		wantErr(t, "Append", p.Append(s), m.append(s))
	case 3, 4:
		wantErr(t, "Flush", p.Flush(), m.flush())
	case 5, 6:
		start := m.start + uint64(arg) - 9
		meta := strings.Repeat(string(rune(x)), x%34/2)
		if x == 253 {
			meta = longest + "m"
		}
		wantErr(t, "Publish", p.Publish(start, meta), m.publish(start, meta))
	case 7:
		pos, n := m.start+uint64(arg)-9, h.next()-9
		got, e := p.Read(pos, n)
		want, is := m.read(pos, n)
		if got != want || e != is {
			t.Fatalf("Read(%d, %d): %q, %d; want %q, %d", pos, n, got, e, want, is)
		}
	}
}

// wantLike holds all that can be seen of a tape and its disk against the model.
func wantLike(t *testing.T, step int, d *disk.Disk, p *tape.Tape, m *model) {
	t.Helper()
	if d.On() != m.d.On() {
		t.Fatalf("step %d: On %v", step, d.On())
	}
	for i := range d.Len() {
		got, e := d.Read(i)
		want, is := m.d.Read(i)
		if got != want || e != is {
			t.Fatalf("step %d: sector %d: %q, %d; want %q, %d", step, i, got, e, want, is)
		}
	}
	if p == nil {
		return
	}
	if p.Start() != m.start || p.Stable() != m.stable || p.End() != m.end() || p.Meta() != m.meta {
		t.Fatalf("step %d: %d, %d, %d, %q; want %d, %d, %d, %q", step, p.Start(), p.Stable(), p.End(), p.Meta(), m.start, m.stable, m.end(), m.meta)
	}
	got, e := p.Read(m.start, len(m.bytes))
	want, is := m.read(m.start, len(m.bytes))
	if got != want || e != is {
		t.Fatalf("step %d: %q, %d; want %q, %d", step, got, e, want, is)
	}
}

// TestLikeModel: P5.1 to P5.4. Many rows of calls.
func TestLikeModel(t *testing.T) {
	x := uint32(1)
	for range 3000 {
		script := []byte{0, 2, 4}
		for range 200 {
			x = x*1664525 + 1013904223
			script = append(script, byte(x>>24))
		}
		run(t, script)
	}
}

// FuzzTape: P5.1 to P5.4.
func FuzzTape(f *testing.F) {
	f.Add([]byte{0, 2, 2, 0, 90, 10, 3, 10, 5, 60, 10, 0, 120, 10, 3, 0, 1, 1, 7, 9, 30})
	f.Add([]byte{0, 2, 4, 0, 200, 10, 3, 0, 4, 3, 0, 90, 10, 3, 0, 7, 70, 1, 0, 1, 7, 9, 50})
	f.Fuzz(func(t *testing.T, script []byte) {
		if len(script) <= 300 {
			run(t, script)
		}
	})
}
