package tclog_test

import (
	"math"
	"reflect"
	"strings"
	"testing"
	"unsafe"

	"couplet/api"
	"couplet/disk"
	"couplet/lrec"
	"couplet/tape"
	"couplet/tclog"
	"couplet/twin"
	"couplet/wire"
)

const (
	stamp = 1 << 40 // LSNs, timestamps and positions end here
	huge  = math.MaxUint64
	top   = 1<<32 - 1 // a twin's numbers end here
)

var (
	other    = strings.Repeat("#", api.Sector)
	longKey  = strings.Repeat("k", api.MaxKey)
	longVal  = strings.Repeat("v", api.MaxVal)
	longest  = strings.NewReplacer("k", longKey[1:]).Replace("ka kb kc kd ke kf")
	allFates = rising(128)
)

// rising tells the numbers from 0 on, below n.
func rising(n int) []uint8 {
	l := make([]uint8, n)
	for i := range l {
		l[i] = uint8(i)
	}
	return l
}

// ops tells an operation on each of some keys: "-k" deletes k, any other one has a value.
func ops(keys string) []api.Rec {
	var l []api.Rec
	for _, k := range strings.Fields(keys) {
		if del, is := strings.CutPrefix(k, "-"); is {
			l = append(l, api.Rec{Key: del, Del: true})
		} else {
			l = append(l, api.Rec{Key: k, Val: "is " + k[:1]})
		}
	}
	return l
}

// entry tells an entry of such operations.
func entry(ts, first uint64, keys string) api.Entry {
	e := api.Entry{Ts: ts, First: first, Ops: ops(keys)}
	for i := range e.Ops {
		e.Ops[i].Lsn = first + uint64(i)
	}
	return e
}

// bytesOf tells the bytes of entries, one behind the other.
func bytesOf(t *testing.T, entries ...api.Entry) string {
	t.Helper()
	all := ""
	for _, e := range entries {
		s, wrong := lrec.Encode(e)
		wantErr(t, "Encode", wrong, api.OK)
		all += s
	}
	return all
}

// numbers tells numbers' bytes.
func numbers(l ...uint64) string {
	s := ""
	for _, n := range l {
		s = wire.PutNum(s, n)
	}
	return s
}

// head tells the bytes of a tape's head.
func head(start, stable uint64, meta string) string {
	return wire.PutText(wire.PutNum(wire.PutNum("", start), stable), meta)
}

// wantErr holds what was answered against what was to be.
func wantErr(t *testing.T, what string, got, want api.Errno) {
	t.Helper()
	if got != want {
		t.Fatalf("%s: %d, want %d", what, got, want)
	}
}

// newDisk makes a disk for a log of so many sectors at 1, with a sector behind it; all are other.
func newDisk(t *testing.T, sectors int) *disk.Disk {
	t.Helper()
	d := disk.New(sectors + 4)
	for i := range d.Len() {
		wantErr(t, "Write", d.Write(i, other), api.OK)
	}
	wantErr(t, "Flush", d.Flush(), api.OK)
	return d
}

// newLog makes a disk, and a log on it.
func newLog(t *testing.T, sectors int) (*disk.Disk, *tclog.Log) {
	t.Helper()
	d := newDisk(t, sectors)
	wantErr(t, "Format", tclog.Format(d, 1, sectors), api.OK)
	return d, open(t, d, sectors)
}

// open opens the log at 1.
func open(t *testing.T, d *disk.Disk, sectors int) *tclog.Log {
	t.Helper()
	l, e := tclog.Open(d, 1, sectors)
	if e != api.OK || l == nil {
		t.Fatalf("Open: %v, %d", l, e)
	}
	return l
}

// wantNoOpen holds that none is opened.
func wantNoOpen(t *testing.T, d *disk.Disk, at, sectors int, want api.Errno) {
	t.Helper()
	if l, e := tclog.Open(d, at, sectors); l != nil || e != want {
		t.Fatalf("Open(%d, %d): %v, %d; want error %d", at, sectors, l, e, want)
	}
}

// lying makes a disk whose tape has these bytes, from start on, and that meta.
func lying(t *testing.T, sectors int, start uint64, meta, bytes string) *disk.Disk {
	t.Helper()
	d := newDisk(t, sectors)
	wantErr(t, "Format", tape.Format(d, 1, sectors), api.OK)
	w, e := twin.Open(d, 1)
	wantErr(t, "twin.Open", e, api.OK)
	wantErr(t, "Set", w.Set(head(start, start, meta)), api.OK)
	p, e := tape.Open(d, 1, sectors)
	wantErr(t, "tape.Open", e, api.OK)
	wantErr(t, "tape's Append", p.Append(bytes), api.OK)
	wantErr(t, "tape's Flush", p.Flush(), api.OK)
	return d
}

// wantTape holds what the tape has that lies on a disk.
func wantTape(t *testing.T, d *disk.Disk, sectors int, start uint64, meta, bytes string) {
	t.Helper()
	p, e := tape.Open(d.Copy(), 1, sectors)
	wantErr(t, "tape.Open", e, api.OK)
	got, e := p.Read(p.Start(), int(p.End()-p.Start()))
	if p.Start() != start || p.Meta() != meta || got != bytes || e != api.OK {
		t.Fatalf("the tape: %d, %x, %x, %d; want %d, %x, %x", p.Start(), p.Meta(), got, e, start, meta, bytes)
	}
}

// wantIs holds all that a log tells.
func wantIs(t *testing.T, l *tclog.Log, epoch, limit, base, stable uint64, entries ...api.Entry) {
	t.Helper()
	last := base
	if n := len(entries); n > 0 {
		last = entries[n-1].First + uint64(len(entries[n-1].Ops)) - 1
	}
	got := []uint64{l.Epoch(), l.Limit(), l.Base(), l.Stable(), l.Last()}
	if want := []uint64{epoch, limit, base, stable, last}; !reflect.DeepEqual(got, want) {
		t.Fatalf("epoch, limit, base, stable, last: %d; want %d", got, want)
	}
	if got := l.Entries(); len(got) != len(entries) || len(got) > 0 && !reflect.DeepEqual(got, entries) {
		t.Fatalf("%+v; want %+v", got, entries)
	}
}

// put appends, and tells the entry.
func put(t *testing.T, l *tclog.Log, ts uint64, keys string) api.Entry {
	t.Helper()
	last := l.Last()
	first, e := l.Append(ts, ops(keys))
	if first != last+1 || e != api.OK {
		t.Fatalf("Append(%d, %s): %d, %d; want %d", ts, keys, first, e, last+1)
	}
	return entry(ts, first, keys)
}

// wantNoPut holds that nothing is appended, and nothing has changed.
func wantNoPut(t *testing.T, l *tclog.Log, ts uint64, l1 []api.Rec, want api.Errno) {
	t.Helper()
	stable, last, entries := l.Stable(), l.Last(), l.Entries()
	if first, e := l.Append(ts, l1); first != 0 || e != want {
		t.Fatalf("Append: %d, %d; want error %d", first, e, want)
	}
	wantIs(t, l, l.Epoch(), l.Limit(), l.Base(), stable, entries...)
	if l.Last() != last {
		t.Fatalf("Last: %d; want %d", l.Last(), last)
	}
}

// flush flushes.
func flush(t *testing.T, l *tclog.Log) {
	t.Helper()
	wantErr(t, "Flush", l.Flush(), api.OK)
}

// trim trims.
func trim(t *testing.T, l *tclog.Log, lsn uint64) {
	t.Helper()
	wantErr(t, "Trim", l.Trim(lsn), api.OK)
}

// reserve reserves.
func reserve(t *testing.T, l *tclog.Log, epoch, limit uint64) {
	t.Helper()
	wantErr(t, "Reserve", l.Reserve(epoch, limit), api.OK)
}

// again takes the power, and wakes.
func again(d *disk.Disk, fates ...uint8) {
	d.Off()
	d.Wake(fates)
}

// takes holds how many operations of the disk something takes.
func takes(t *testing.T, d *disk.Disk, n int, do func()) {
	t.Helper()
	d.Arm(n + 1)
	do()
	if !d.On() {
		t.Fatalf("it takes more than %d operations", n)
	}
	wantErr(t, "one operation more", d.Flush(), api.ErrOff)
	d.Wake(nil)
}

// TestExamples: P7.2 to P7.5. The chapter's, one behind the other.
func TestExamples(t *testing.T) {
	d := disk.New(6)
	wantErr(t, "Format", tclog.Format(d, 0, 4), api.OK)
	l, e := tclog.Open(d, 0, 4)
	wantErr(t, "Open", e, api.OK)
	wantIs(t, l, 0, 0, 0, 0)

	if first, e := l.Append(5, ops("a")); first != 1 || e != api.OK {
		t.Fatalf("Append(5, a): %d, %d", first, e)
	}
	if first, e := l.Append(6, ops("a b")); first != 2 || e != api.OK {
		t.Fatalf("Append(6, a b): %d, %d", first, e)
	}
	if l.Last() != 3 || l.Stable() != 0 {
		t.Fatalf("Last, Stable: %d, %d", l.Last(), l.Stable())
	}

	flush(t, l)
	wantIs(t, l, 0, 0, 0, 3, entry(5, 1, "a"), entry(6, 2, "a b"))
	trim(t, l, 2)
	wantIs(t, l, 0, 0, 1, 3, entry(6, 2, "a b"))

	if first, e := l.Append(9, ops("c")); first != 4 || e != api.OK {
		t.Fatalf("Append(9, c): %d, %d", first, e)
	}
	again(d)
	l, e = tclog.Open(d, 0, 4)
	wantErr(t, "Open", e, api.OK)
	wantIs(t, l, 0, 0, 1, 3, entry(6, 2, "a b"))

	wantErr(t, "Reserve(1, 1000)", l.Reserve(1, 1000), api.OK)
	wantErr(t, "Reserve(0, 1000)", l.Reserve(0, 1000), api.ErrArg)
	wantNoPut(t, l, 9, nil, api.ErrArg)
	wantIs(t, l, 1, 1000, 1, 3, entry(6, 2, "a b"))
}

// TestFormat: P7.1. What a tape's Format makes, and answers; what was there is no more.
func TestFormat(t *testing.T) {
	d, l := newLog(t, 2)
	wantIs(t, l, 0, 0, 0, 0)
	wantTape(t, d, 2, 0, "", "")
	put(t, l, 1, "a b")
	flush(t, l)
	reserve(t, l, 1, 2)
	trim(t, l, 2)
	c := d.Copy()
	wantErr(t, "Format", tclog.Format(d, 1, 2), tape.Format(c, 1, 2))
	for i := range d.Len() {
		got, _ := d.Read(i)
		if want, _ := c.Read(i); got != want {
			t.Fatalf("sector %d: %q; want %q", i, got, want)
		}
	}
	again(d)
	wantIs(t, open(t, d, 2), 0, 0, 0, 0)
	for n := range 4 { // 0: the power is off ahead of it
		d.Arm(n)
		if n == 0 {
			d.Off()
		}
		wantErr(t, "Format", tclog.Format(d, 1, 2), api.ErrOff)
		wantErr(t, "Format", tclog.Format(d, 1, 5), api.ErrArg)
		d.Wake(nil)
	}
	takes(t, d, 3, func() { wantErr(t, "Format", tclog.Format(d, 1, 2), api.OK) })
}

// TestPlaces: P7.1. R3. Where no log can lie, and disks that are none, or hold none.
func TestPlaces(t *testing.T) {
	d := disk.New(6)
	for range 2 {
		for _, x := range [][2]int{{-1, 1}, {0, 0}, {0, -1}, {0, 5}, {3, 2}, {4, 1}, {6, 1}, {math.MaxInt, math.MaxInt}, {math.MinInt, math.MinInt}, {math.MaxInt, 1}, {0, math.MaxInt}} {
			wantErr(t, "Format", tclog.Format(d, x[0], x[1]), api.ErrArg)
			wantNoOpen(t, d, x[0], x[1], api.ErrArg)
			wantErr(t, "Format of none", tclog.Format(nil, x[0], x[1]), api.ErrNil)
			wantNoOpen(t, nil, x[0], x[1], api.ErrNil)
			wantErr(t, "Format of a disk that was not made", tclog.Format(&disk.Disk{}, x[0], x[1]), api.ErrArg)
			wantNoOpen(t, &disk.Disk{}, x[0], x[1], api.ErrArg)
		}
		wantErr(t, "Format of none", tclog.Format(nil, 0, 4), api.ErrNil)
		wantNoOpen(t, nil, 0, 4, api.ErrNil)
		d.Off()
	}
	wantNoOpen(t, d, 0, 4, api.ErrOff)
	d.Wake(nil)
	wantNoOpen(t, d, 0, 4, api.ErrBroken)
	wantNoOpen(t, newDisk(t, 3), 1, 3, api.ErrBroken)
	wantErr(t, "Format", tclog.Format(d, 3, 1), api.OK)
	l, e := tclog.Open(d, 3, 1)
	wantErr(t, "Open", e, api.OK)
	wantIs(t, l, 0, 0, 0, 0)
	wantNoOpen(t, d, 0, 4, api.ErrBroken)
}

// TestOpenTwin: P7.1. What the tape's Open mends may find the power off.
func TestOpenTwin(t *testing.T) {
	e := entry(1, 1, "a b")
	for n := 1; n <= 3; n++ {
		d := lying(t, 1, 0, "", bytesOf(t, e))
		wantErr(t, "Write", d.Write(1, other[1:]+"x"), api.OK)
		wantErr(t, "Flush", d.Flush(), api.OK)
		d.Arm(n)
		if n < 3 {
			wantNoOpen(t, d, 1, 1, api.ErrOff)
			wantNoOpen(t, d, 1, 1, api.ErrOff)
			d.Wake(nil)
		}
		wantIs(t, open(t, d, 1), 0, 0, 0, 2, e)
	}
}

// TestOpenMeta: P7.1. What metas there are.
func TestOpenMeta(t *testing.T) {
	for _, x := range [][3]uint64{{0, 0, 0}, {1, 0, 0}, {0, 2, 0}, {0, 0, 3}, {1, 2, 3}, {127, 128, 1 << 14}, {stamp, stamp, stamp}, {stamp + 1, huge, stamp + 1}, {huge, huge, huge}, {0, 0, huge}} {
		meta := numbers(x[0], x[1], x[2])
		d := lying(t, 1, 50, meta, "")
		wantIs(t, open(t, d, 1), x[0], x[1], x[2], x[2])
		wantTape(t, d, 1, 50, meta, "")
	}
	wantIs(t, open(t, lying(t, 1, 50, "", ""), 1), 0, 0, 0, 0)
	for _, meta := range []string{
		numbers(1), numbers(1, 2), numbers(1, 2, 3, 4), numbers(1, 2, 3) + "x", numbers(0, 0, 0, 0), numbers(0), "\x80", "\xff",
		numbers(1, 2) + "\x80", numbers(1, 2) + "\x80\x00", "\x80\x00" + numbers(2, 3), numbers(1) + "\x81\x00" + numbers(3),
		numbers(huge, huge) + strings.Repeat("\xff", 9) + "\x02", strings.Repeat("\x00", 32), strings.Repeat("\xff", 32), "meta",
	} {
		for _, bytes := range []string{"", bytesOf(t, entry(1, 1, "a")), "x"} {
			d := lying(t, 1, 0, meta, bytes)
			wantNoOpen(t, d, 1, 1, api.ErrBroken)
			wantTape(t, d, 1, 0, meta, bytes)
		}
	}
}

// TestOpenEntries: P7.1. What bytes are those of entries that go on from base.
func TestOpenEntries(t *testing.T) {
	row := []api.Entry{entry(5, 4, "a"), entry(3, 5, "a b -c"), entry(stamp, 8, longKey), entry(5, 9, "f e d c b a")}
	for n := range len(row) + 1 {
		d := lying(t, 3, 1000, numbers(1, 2, 3), bytesOf(t, row[:n]...))
		l := open(t, d, 3)
		wantIs(t, l, 1, 2, 3, l.Last(), row[:n]...)
	}
	for _, base := range []uint64{0, 1, 2, 4, 5, 7, 8, stamp, huge} {
		for n := 1; n <= len(row); n++ {
			wantNoOpen(t, lying(t, 3, 1000, numbers(1, 2, base), bytesOf(t, row[:n]...)), 1, 3, api.ErrBroken)
		}
	}
	wantNoOpen(t, lying(t, 3, 0, "", bytesOf(t, row...)), 1, 3, api.ErrBroken)
	all := bytesOf(t, row...)
	ends := map[int]bool{}
	for n := range row {
		ends[len(bytesOf(t, row[:n]...))] = true
	}
	for n := range len(all) {
		d := lying(t, 3, 0, numbers(0, 0, 3), all[:n])
		if ends[n] {
			open(t, d, 3)
		} else {
			wantNoOpen(t, d, 1, 3, api.ErrBroken)
		}
		spoilt := all[:n] + string([]byte{all[n] ^ 0x10}) + all[n+1:]
		wantNoOpen(t, lying(t, 3, 0, numbers(0, 0, 3), spoilt), 1, 3, api.ErrBroken)
	}
	for _, odd := range []string{"\x00", "x", all[:1], "\xff\xff\xff\xff\x0f" + all} {
		wantNoOpen(t, lying(t, 3, 0, numbers(0, 0, 3), odd), 1, 3, api.ErrBroken)
		wantNoOpen(t, lying(t, 4, 0, numbers(0, 0, 3), all+odd), 1, 4, api.ErrBroken)
	}
	for _, turned := range [][]api.Entry{{row[1], row[0]}, {row[0], row[0]}, {row[0], row[2]}, {row[0], row[1], row[3]}, {row[0], row[1], row[1]}, {row[0], entry(5, 6, "a")}, {row[0], entry(5, 4, "b")}} {
		wantNoOpen(t, lying(t, 3, 0, numbers(0, 0, 3), bytesOf(t, turned...)), 1, 3, api.ErrBroken)
	}
	e := entry(1, stamp-1, "a b")
	wantIs(t, open(t, lying(t, 1, 0, numbers(0, 0, stamp-2), bytesOf(t, e)), 1), 0, 0, stamp-2, stamp, e)
}

// TestNone: P7.2 to P7.4. R3. Of one that was not opened, too.
func TestNone(t *testing.T) {
	for _, l := range []*tclog.Log{nil, {}} {
		for range 2 {
			wantIs(t, l, 0, 0, 0, 0)
			for _, l1 := range [][]api.Rec{nil, ops("a"), ops("a a"), ops("a b c d e f g")} {
				wantNoPut(t, l, 1, l1, api.ErrNil)
				wantNoPut(t, l, 0, l1, api.ErrNil)
			}
			wantErr(t, "Flush", l.Flush(), api.ErrNil)
			wantErr(t, "Trim", l.Trim(0), api.ErrNil)
			wantErr(t, "Trim", l.Trim(huge), api.ErrNil)
			wantErr(t, "Reserve", l.Reserve(0, 0), api.ErrNil)
			wantErr(t, "Reserve", l.Reserve(1, 1), api.ErrNil)
		}
	}
}

// TestAppend: P7.2, P7.3. LSNs go on, whatever LSNs the operations had, and whatever is flushed; no operation, and none is missed while the power is off.
func TestAppend(t *testing.T) {
	d, l := newLog(t, 20)
	var want []api.Entry
	takes(t, d, 0, func() {
		for i, keys := range []string{"a", "a b", "-a", "b -c", "f e d c b a", longKey + " x"} {
			want = append(want, put(t, l, uint64(100-i), keys))
			wantIs(t, l, 0, 0, 0, 0, want...)
		}
	})
	odd := []api.Rec{{Key: "a", Lsn: 7}, {Key: "b", Lsn: huge, Val: longVal}, {Key: "c", Del: true}}
	first, e := l.Append(stamp, odd)
	if first != want[5].First+2 || e != api.OK {
		t.Fatalf("Append: %d, %d", first, e)
	}
	if odd[0].Lsn != 7 || odd[1].Lsn != huge || odd[2].Lsn != 0 {
		t.Fatalf("changed: %v", odd)
	}
	want = append(want, api.Entry{Ts: stamp, First: first, Ops: []api.Rec{{Key: "a", Lsn: first}, {Key: "b", Lsn: first + 1, Val: longVal}, {Key: "c", Lsn: first + 2, Del: true}}})
	wantIs(t, l, 0, 0, 0, 0, want...)
	flush(t, l)
	wantIs(t, l, 0, 0, 0, first+2, want...)
	d.Off()
	want = append(want, put(t, l, 1, "z"))
	wantIs(t, l, 0, 0, 0, first+2, want...)
	d.Wake(nil)
	flush(t, l)
	want = append(want, put(t, l, 1, "y x"))
	wantIs(t, l, 0, 0, 0, first+3, want...)
	wantIs(t, open(t, d, 20), 0, 0, 0, first+3, want[:len(want)-1]...)
}

// TestAppendWrong: P7.3. What an entry may not be, in the order of Check, ahead of a log that is full, and power that is off.
func TestAppendWrong(t *testing.T) {
	d, l := newLog(t, 1)
	put(t, l, 1, "a b")
	flush(t, l)
	put(t, l, 1, "a")
	for full := range 3 {
		for _, x := range []struct {
			what string
			ts   uint64
			ops  []api.Rec
			want api.Errno
		}{
			{"no operations", 1, nil, api.ErrArg},
			{"no operations", 1, []api.Rec{}, api.ErrArg},
			{"no operations, and no timestamp", 0, nil, api.ErrArg},
			{"no timestamp", 0, ops("a"), api.ErrArg},
			{"too great a timestamp", stamp + 1, ops("a"), api.ErrArg},
			{"too great a timestamp", huge, ops("a"), api.ErrArg},
			{"a key twice", 1, ops("a b a"), api.ErrArg},
			{"a key twice", 1, ops("a -a"), api.ErrArg},
			{"no key", 1, []api.Rec{{Key: "a"}, {}}, api.ErrArg},
			{"a deletion with a value", 1, []api.Rec{{Key: "a", Del: true, Val: "x"}}, api.ErrArg},
			{"seven operations", 1, ops("a b c d e f g"), api.ErrLong},
			{"seven operations, one twice, and no timestamp", 0, ops("a a c d e f g"), api.ErrLong},
			{"a thousand operations", 1, make([]api.Rec, 1000), api.ErrLong},
			{"a key too long", 1, ops("a " + longKey + "k"), api.ErrLong},
			{"a value too long", 1, []api.Rec{{Key: "a", Val: longVal + "v"}}, api.ErrLong},
			{"no key, and a value too long, and no timestamp", 0, []api.Rec{{}, {Key: "a", Val: longVal + "v"}}, api.ErrLong},
		} {
			t.Log(x.what)
			wantNoPut(t, l, x.ts, x.ops, x.want)
		}
		switch full {
		case 0:
			for e := api.OK; e == api.OK; {
				_, e = l.Append(1, ops("a"))
			}
		case 1:
			d.Off()
		}
	}
}

// TestFull: P7.3. The log takes as much as the tape has room for, published or not; nothing has changed beside ErrLog.
func TestFull(t *testing.T) {
	d, l := newLog(t, 2)
	var want []api.Entry
	room := 2 * api.Sector
	for i := range uint64(100) {
		keys := "k " + longKey[:i%17] + "x"
		if i%17 > 15 {
			keys = "k"
		}
		e := entry(i+1, l.Last()+1, keys)
		n := len(bytesOf(t, e))
		if n > room {
			wantNoPut(t, l, i+1, ops(keys), api.ErrLog)
			continue
		}
		room -= n
		want = append(want, put(t, l, i+1, keys))
	}
	if room > len(bytesOf(t, entry(1, 1, "k"))) || len(want) < 5 {
		t.Fatalf("%d bytes are left, of %d entries", room, len(want))
	}
	wantNoPut(t, l, 1, ops("a b c d e f"), api.ErrLog)
	wantNoPut(t, l, 0, ops("a b c d e f"), api.ErrArg)
	flush(t, l)
	wantNoPut(t, l, 1, ops("a b c d e f"), api.ErrLog)
	wantIs(t, l, 0, 0, 0, l.Last(), want...)
	wantIs(t, open(t, d, 2), 0, 0, 0, l.Last(), want...)

	trim(t, l, want[4].First)
	left := room + len(bytesOf(t, want[:4]...))
	if trimmed := l.Base() == want[4].First-1; !trimmed {
		t.Fatalf("Base: %d", l.Base())
	}
	for left >= 0 {
		e := entry(7, l.Last()+1, "a b")
		left -= len(bytesOf(t, e))
		if left >= 0 {
			want = append(want, put(t, l, 7, "a b"))
		}
	}
	wantNoPut(t, l, 7, ops("a b"), api.ErrLog)
	flush(t, l)
	wantIs(t, open(t, d, 2), 0, 0, want[4].First-1, l.Last(), want[4:]...)
}

// TestExactlyFull: P7.3. The tape's last byte is taken, too.
func TestExactlyFull(t *testing.T) {
	for spare := -1; spare <= 1; spare++ {
		d, l := newLog(t, 1)
		a, b := entry(1, 1, "a b c d e f"), []api.Rec{{Key: "a", Lsn: 7}, {Key: "b", Lsn: 8}, {Key: "c", Lsn: 9}}
		room := api.Sector - len(bytesOf(t, a)) - len(bytesOf(t, api.Entry{Ts: 1, First: 7, Ops: b})) - spare
		b[0].Val, b[1].Val, b[2].Val = longVal[:20], longVal[:20], longVal[:room-40]
		put(t, l, 1, "a b c d e f")
		if spare < 0 {
			wantNoPut(t, l, 1, b, api.ErrLog)
			continue
		}
		first, e := l.Append(1, b)
		if first != 7 || e != api.OK {
			t.Fatalf("%d spare: Append: %d, %d", spare, first, e)
		}
		flush(t, l)
		wantIs(t, open(t, d, 1), 0, 0, 0, 9, a, api.Entry{Ts: 1, First: 7, Ops: b})
	}
}

// TestPositionsEnd: P7.3. The tape's ErrSpace, behind its ErrFull.
func TestPositionsEnd(t *testing.T) {
	a := entry(1, 4, "a")
	n := uint64(len(bytesOf(t, a)))
	d := lying(t, 1, stamp-3*n-1, numbers(1, 2, 3), bytesOf(t, a))
	l := open(t, d, 1)
	b := put(t, l, 2, "b")
	c := put(t, l, 3, "c")
	for range 2 {
		wantNoPut(t, l, 4, ops("d"), api.ErrSpace)
		wantNoPut(t, l, 0, ops("d"), api.ErrArg)
		wantNoPut(t, l, 4, ops(longest), api.ErrLog)
		flush(t, l)
		wantIs(t, l, 1, 2, 3, 6, a, b, c)
		l = open(t, d, 1)
	}
	trim(t, l, 6)
	wantNoPut(t, l, 4, ops("d"), api.ErrSpace)
	reserve(t, l, 5, 5)
	wantIs(t, open(t, d, 1), 5, 5, 6, 6)
}

// TestLsnsEnd: P7.3. An LSN above MaxStamp is none that an entry may have: Check tells that ahead of all but too long an entry.
func TestLsnsEnd(t *testing.T) {
	for _, left := range []uint64{0, 1, 2, 5} {
		d := lying(t, 1, 0, numbers(0, 0, stamp-left), "")
		l := open(t, d, 1)
		for n := range uint64(7) {
			keys := ops("a b c d e f g"[:2*n+1])
			if n+1 > left && n < 6 {
				wantNoPut(t, l, 1, keys, api.ErrArg)
			}
		}
		wantNoPut(t, l, 1, ops("a b c d e f g"), api.ErrLong)
		if left == 0 {
			continue
		}
		keys := "a b c d e f"[:2*left-1]
		e := put(t, l, 1, keys)
		flush(t, l)
		wantNoPut(t, l, 1, ops("a"), api.ErrArg)
		wantIs(t, open(t, d, 1), 0, 0, stamp-left, stamp, e)
		trim(t, l, stamp)
		wantNoPut(t, l, 1, ops("a"), api.ErrArg)
		wantIs(t, open(t, d, 1), 0, 0, stamp, stamp)
	}
	for _, base := range []uint64{stamp + 1, huge - 3, huge - 1, huge} {
		l := open(t, lying(t, 1, 0, numbers(0, 0, base), ""), 1)
		wantNoPut(t, l, 1, ops("a b c d e f"), api.ErrArg)
		wantNoPut(t, l, 1, ops("a"), api.ErrArg)
		trim(t, l, huge)
		wantIs(t, l, 0, 0, base, base)
	}
}

// TestFlush: P7.3. What lies on the tape; nothing to flush takes no operation, and misses none.
func TestFlush(t *testing.T) {
	d, l := newLog(t, 3)
	takes(t, d, 0, func() { flush(t, l) })
	a, b := put(t, l, 3, "a -b"), put(t, l, 2, "a")
	wantTape(t, d, 3, 0, "", "")
	takes(t, d, 4, func() { flush(t, l) })
	wantTape(t, d, 3, 0, "", bytesOf(t, a, b))
	reserve(t, l, 4, 5)
	wantTape(t, d, 3, 0, numbers(4, 5, 0), bytesOf(t, a, b))
	c := put(t, l, 9, "c d e f g h")
	wantTape(t, d, 3, 0, numbers(4, 5, 0), bytesOf(t, a, b))
	wantIs(t, l, 4, 5, 0, 3, a, b, c)
	flush(t, l)
	wantTape(t, d, 3, 0, numbers(4, 5, 0), bytesOf(t, a, b, c))
	wantIs(t, l, 4, 5, 0, 9, a, b, c)
	d.Off()
	flush(t, l)
	d.Wake(nil)
	wantIs(t, open(t, d, 3), 4, 5, 0, 9, a, b, c)
}

// TestTrim: P7.4. Which entries go: whole ones, from the first one on, that are stable; in two operations, a Publish's, or in none.
func TestTrim(t *testing.T) {
	row := []string{"a", "a b", "c", "a b c d e f", "x", "y z"} // the LSNs 1, 2 3, 4, 5 to 10, 11, 12 13
	last := []uint64{1, 3, 4, 10, 11, 13}
	for flushed := range len(row) + 1 {
		for lsn := range uint64(16) {
			d, l := newLog(t, 5)
			var all []api.Entry
			for i, keys := range row {
				all = append(all, put(t, l, uint64(20-i), keys))
				if i+1 == flushed {
					flush(t, l)
				}
			}
			n, base, stable := 0, uint64(0), uint64(0)
			for i := range flushed {
				stable = last[i]
				if last[i] <= lsn {
					n, base = i+1, last[i]
				}
			}
			ops, meta := 0, ""
			if n > 0 {
				ops, meta = 2, numbers(0, 0, base)
			}
			takes(t, d, ops, func() { trim(t, l, lsn) })
			start := uint64(len(bytesOf(t, all[:n]...)))
			wantIs(t, l, 0, 0, base, stable, all[n:]...)
			wantTape(t, d, 5, start, meta, bytesOf(t, all[n:flushed]...))
			wantIs(t, open(t, d, 5), 0, 0, base, stable, all[n:flushed]...)
			takes(t, d, 0, func() { trim(t, l, lsn) })
			flush(t, l)
			trim(t, l, huge)
			wantIs(t, l, 0, 0, 13, 13)
			next := put(t, l, 1, "a")
			flush(t, l)
			wantIs(t, open(t, d, 5), 0, 0, 13, 14, next)
		}
	}
}

// TestTrimNone: P7.4. If none goes, power that is off is not missed.
func TestTrimNone(t *testing.T) {
	d, l := newLog(t, 2)
	d.Off()
	trim(t, l, huge)
	a := put(t, l, 1, "a b")
	trim(t, l, huge)
	d.Wake(nil)
	flush(t, l)
	d.Off()
	trim(t, l, 0)
	trim(t, l, 1)
	wantIs(t, l, 0, 0, 0, 2, a)
	wantErr(t, "Trim(2)", l.Trim(2), api.ErrOff)
}

// TestReserve: P7.4. Epoch and limit grow, or stay; each time they are published, in two operations; what is appended is not published by it.
func TestReserve(t *testing.T) {
	d, l := newLog(t, 2)
	a := put(t, l, 1, "a")
	flush(t, l)
	b := put(t, l, 1, "b c")
	flush(t, l)
	trim(t, l, 1)
	start := uint64(len(bytesOf(t, a)))
	c := put(t, l, 1, "c")
	for _, x := range [][2]uint64{{0, 0}, {1, 0}, {1, 1000}, {1, 1000}, {2, 1000}, {2, 1001}, {500, 2000}, {stamp, stamp}, {stamp + 1, stamp + 1}, {huge, stamp + 1}, {huge, huge}, {huge, huge}} {
		takes(t, d, 2, func() { reserve(t, l, x[0], x[1]) })
		wantIs(t, l, x[0], x[1], 1, 3, b, c)
		wantTape(t, d, 2, start, numbers(x[0], x[1], 1), bytesOf(t, b))
		wantIs(t, open(t, d, 2), x[0], x[1], 1, 3, b)
	}
	flush(t, l)
	wantIs(t, open(t, d, 2), huge, huge, 1, 4, b, c)
	trim(t, l, 3)
	wantIs(t, open(t, d, 2), huge, huge, 3, 4, c)
}

// TestReserveWrong: P7.4. One of both is less; ahead of power that is off; nothing has changed.
func TestReserveWrong(t *testing.T) {
	d, l := newLog(t, 1)
	reserve(t, l, 5, 1000)
	takes(t, d, 0, func() {
		for range 2 {
			for _, x := range [][2]uint64{{4, 1000}, {5, 999}, {4, 1001}, {6, 999}, {0, 0}, {0, huge}, {huge, 0}, {4, 999}} {
				wantErr(t, "Reserve", l.Reserve(x[0], x[1]), api.ErrArg)
			}
			wantIs(t, l, 5, 1000, 0, 0)
		}
	})
	d.Off()
	wantErr(t, "Reserve", l.Reserve(4, 1000), api.ErrArg)
	d.Wake(nil)
	wantTape(t, d, 1, 0, numbers(5, 1000, 0), "")
	reserve(t, l, 5, 1000)
}

// wantOver holds that a log is over, and tells what it told ahead.
func wantOver(t *testing.T, d *disk.Disk, l *tclog.Log, epoch, limit, base, stable uint64, entries ...api.Entry) {
	t.Helper()
	d.Arm(1)
	on := d.On()
	for range 2 {
		for _, l1 := range [][]api.Rec{nil, ops("a"), ops("a a"), ops("a b c d e f g")} {
			wantNoPut(t, l, 1, l1, api.ErrOff)
			wantNoPut(t, l, 0, l1, api.ErrOff)
		}
		wantErr(t, "Flush, over", l.Flush(), api.ErrOff)
		for _, lsn := range []uint64{0, base, stable, huge} {
			wantErr(t, "Trim, over", l.Trim(lsn), api.ErrOff)
		}
		wantErr(t, "Reserve, over", l.Reserve(epoch, limit), api.ErrOff)
		wantErr(t, "Reserve, over", l.Reserve(epoch-1, limit), api.ErrOff)
		wantIs(t, l, epoch, limit, base, stable, entries...)
	}
	if d.On() != on {
		t.Fatal("a log that is over takes an operation")
	}
	d.Arm(0)
}

// TestOver: P7.4. Behind an ErrOff all answer that, though the power is back, and there would be nothing to do, or an error; opened anew, it goes on.
func TestOver(t *testing.T) {
	for _, call := range []struct {
		name string
		ops  int
		do   func(l *tclog.Log) api.Errno
	}{
		{"Flush", 4, func(l *tclog.Log) api.Errno { return l.Flush() }},
		{"Trim", 2, func(l *tclog.Log) api.Errno { return l.Trim(3) }},
		{"Reserve", 2, func(l *tclog.Log) api.Errno { return l.Reserve(8, 9) }},
	} {
		for n := range call.ops + 1 { // 0: the power is off ahead of it
			d, l := newLog(t, 1)
			put(t, l, 1, "a")
			b, c := put(t, l, 2, "b -c"), put(t, l, 3, "d")
			flush(t, l)
			trim(t, l, 1)
			reserve(t, l, 2, 7)
			x := put(t, l, 4, "x")
			d.Arm(n)
			if n == 0 {
				d.Off()
			}
			wantErr(t, call.name, call.do(l), api.ErrOff)
			wantOver(t, d, l, 2, 7, 1, 4, b, c, x)
			d.Wake(nil)
			wantOver(t, d, l, 2, 7, 1, 4, b, c, x)
			q := open(t, d, 1)
			wantIs(t, q, 2, 7, 1, 4, b, c)
			y := put(t, q, 5, "y")
			flush(t, q)
			trim(t, q, 3)
			reserve(t, q, 3, 8)
			wantOver(t, d, l, 2, 7, 1, 4, b, c, x)
			wantIs(t, open(t, d, 1), 3, 8, 3, 5, c, y)
		}
	}
}

// TestNotOver: P7.4. Power that went while the log asked for none is no hindrance, nor is any other error.
func TestNotOver(t *testing.T) {
	d, l := newLog(t, 1)
	a := put(t, l, 1, "a")
	flush(t, l)
	d.Off()
	b := put(t, l, 2, "b")
	wantNoPut(t, l, 3, nil, api.ErrArg)
	wantNoPut(t, l, 3, ops(longest), api.ErrLog)
	wantNoPut(t, l, 3, ops("a b c d e f g"), api.ErrLong)
	trim(t, l, 0)
	d.Wake(nil)
	reserve(t, l, 1, 1)
	wantErr(t, "Reserve", l.Reserve(0, 1), api.ErrArg)
	flush(t, l)
	wantIs(t, open(t, d, 1), 1, 1, 0, 2, a, b)
	trim(t, l, 1)
	wantIs(t, open(t, d, 1), 1, 1, 1, 2, b)
}

// TestTwinAtTheEnd: P7.3, P7.4. The tape's ErrSpace is the answer; the log is as it was, and not over.
func TestTwinAtTheEnd(t *testing.T) {
	d := newDisk(t, 1)
	wantErr(t, "Format", tclog.Format(d, 1, 1), api.OK)
	n := uint32(top - 2)
	half := string([]byte{byte(n >> 24), byte(n >> 16), byte(n >> 8), byte(n)}) + strings.Repeat("\x00", 60)
	wantErr(t, "Write", d.Write(1+int(n%2), half+half), api.OK)
	wantErr(t, "Flush", d.Flush(), api.OK)
	l := open(t, d, 1)
	a := put(t, l, 1, "a")
	flush(t, l)
	reserve(t, l, 1, 2)
	b := put(t, l, 2, "b")
	for range 2 {
		wantErr(t, "Flush", l.Flush(), api.ErrSpace)
		wantErr(t, "Trim", l.Trim(1), api.ErrSpace)
		wantErr(t, "Trim", l.Trim(0), api.OK)
		wantErr(t, "Reserve", l.Reserve(1, 3), api.ErrSpace)
		wantErr(t, "Reserve", l.Reserve(0, 3), api.ErrArg)
		wantIs(t, l, 1, 2, 0, 1, a, b)
	}
	c := put(t, l, 3, "c")
	wantIs(t, l, 1, 2, 0, 1, a, b, c)
	wantIs(t, open(t, d, 1), 1, 2, 0, 1, a)
}

// TestNotKept: R5. What is handed in is not kept; what is answered is new.
func TestNotKept(t *testing.T) {
	d, l := newLog(t, 2)
	k, v := []byte("key"), []byte("val")
	given := []api.Rec{{Key: unsafe.String(&k[0], 3), Val: unsafe.String(&v[0], 3)}, {Key: "b"}}
	if _, e := l.Append(1, given); e != api.OK {
		t.Fatal(e)
	}
	want := api.Entry{Ts: 1, First: 1, Ops: []api.Rec{{Key: "key", Lsn: 1, Val: "val"}, {Key: "b", Lsn: 2}}}
	clear(k)
	clear(v)
	clear(given)
	wantIs(t, l, 0, 0, 0, 0, want)
	for range 2 {
		one, two := l.Entries(), l.Entries()
		for i, r := range one[0].Ops {
			if unsafe.StringData(r.Key) == unsafe.StringData(two[0].Ops[i].Key) || r.Val != "" && unsafe.StringData(r.Val) == unsafe.StringData(two[0].Ops[i].Val) {
				t.Fatal("two answers share memory")
			}
		}
		clear(one[0].Ops)
		clear(one)
		_ = append(two[0].Ops[:1], api.Rec{Key: "x"})
		two[0].Ops[0].Key = "y"
		flush(t, l)
		wantIs(t, l, 0, 0, 0, 2, want)
		l = open(t, d, 2)
	}
	next := put(t, l, 2, "c")
	told := l.Entries()
	flush(t, l)
	trim(t, l, 2)
	put(t, l, 3, "d")
	if !reflect.DeepEqual(told, []api.Entry{want, next}) {
		t.Fatalf("changed with the log: %v", told)
	}
}

// TestLogsApart: two logs on one disk, and two disks that were one, go their own ways.
func TestLogsApart(t *testing.T) {
	d := disk.New(8)
	var logs [2]*tclog.Log
	for i := range logs {
		wantErr(t, "Format", tclog.Format(d, 4*i, 2), api.OK)
		l, e := tclog.Open(d, 4*i, 2)
		wantErr(t, "Open", e, api.OK)
		logs[i] = l
	}
	a, b := put(t, logs[0], 1, "a"), put(t, logs[1], 2, "b c")
	flush(t, logs[0])
	flush(t, logs[1])
	c := d.Copy()
	trim(t, logs[0], 1)
	reserve(t, logs[1], 1, 2)
	wantIs(t, logs[0], 0, 0, 1, 1)
	wantIs(t, logs[1], 1, 2, 0, 2, b)
	for i, e := range []api.Entry{a, b} {
		l, wrong := tclog.Open(c, 4*i, 2)
		wantErr(t, "Open", wrong, api.OK)
		wantIs(t, l, 0, 0, 0, e.First+uint64(len(e.Ops))-1, e)
	}
}

// state is what a log has.
type state struct {
	epoch, limit, base, stable uint64
	entries                    []api.Entry
}

// is tells whether a log has that.
func (s state) is(l *tclog.Log) bool {
	got := l.Entries()
	return l.Epoch() == s.epoch && l.Limit() == s.limit && l.Base() == s.base && l.Stable() == s.stable &&
		len(got) == len(s.entries) && (len(got) == 0 || reflect.DeepEqual(got, s.entries))
}

// either holds that a log, opened anew, has one of two states, and that LSNs go on; the power goes in the Open's mending, too.
func either(t *testing.T, d *disk.Disk, sectors int, ahead, behind state) {
	t.Helper()
	hold := func(d *disk.Disk) {
		t.Helper()
		l := open(t, d, sectors)
		if !ahead.is(l) && !behind.is(l) {
			t.Fatalf("%d, %d, %d, %d, %v; want %v, or %v", l.Epoch(), l.Limit(), l.Base(), l.Stable(), l.Entries(), ahead, behind)
		}
		if l.Last() != l.Stable() {
			t.Fatalf("Last: %d, of %d", l.Last(), l.Stable())
		}
		put(t, l, 99, "k")
	}
	for n := 1; n <= 4; n++ {
		off := d.Copy()
		off.Arm(n)
		if _, e := tclog.Open(off, 1, sectors); e == api.OK {
			break
		}
		for _, f := range []uint8{0, 1, 70} {
			o := off.Copy()
			o.Wake([]uint8{f})
			hold(o)
		}
	}
	hold(d)
}

// fatesOf goes through rows of n fates, each one of some.
func fatesOf(n int, some []uint8, yield func([]uint8)) {
	fates := make([]uint8, n)
	var fill func(i int)
	fill = func(i int) {
		if i == n {
			yield(fates)
			return
		}
		for _, f := range some {
			fates[i] = f
			fill(i + 1)
		}
	}
	fill(0)
}

// TestAllOrNothing: P7.5. Wherever the power goes in a Flush, a Trim or a Reserve, whatever becomes of unflushed writes.
func TestAllOrNothing(t *testing.T) {
	const sectors = 2
	made := func() (*disk.Disk, *tclog.Log, []api.Entry) {
		d := lying(t, sectors, 200, numbers(3, 5, 7), bytesOf(t, entry(1, 8, "a b")))
		l := open(t, d, sectors)
		put(t, l, 2, "c")
		flush(t, l)
		put(t, l, 3, "-a d e")
		put(t, l, 4, "f g")
		return d, l, l.Entries()
	}
	_, _, all := made()
	ahead := state{3, 5, 7, 10, all[:2]}
	for _, x := range []struct {
		name   string
		ops    int
		do     func(l *tclog.Log) api.Errno
		behind state
	}{
		{"Flush", 5, func(l *tclog.Log) api.Errno { return l.Flush() }, state{3, 5, 7, 15, all}},
		{"Trim(9)", 2, func(l *tclog.Log) api.Errno { return l.Trim(9) }, state{3, 5, 9, 10, all[1:2]}},
		{"Trim(15)", 2, func(l *tclog.Log) api.Errno { return l.Trim(15) }, state{3, 5, 10, 10, nil}},
		{"Reserve", 2, func(l *tclog.Log) api.Errno { return l.Reserve(4, huge) }, state{4, huge, 7, 10, all[:2]}},
	} {
		for n := 1; n <= x.ops; n++ {
			base, l, _ := made()
			base.Arm(n)
			wantErr(t, x.name, x.do(l), api.ErrOff)
			writes, some := 1, allFates
			if n < x.ops && n > 2 {
				writes, some = 2, []uint8{0, 1, 2, 10, 50, 64, 100, 127}
			}
			fatesOf(writes, some, func(fates []uint8) {
				d := base.Copy()
				d.Wake(fates)
				either(t, d, sectors, ahead, x.behind)
			})
		}
		d, l, _ := made()
		takes(t, d, x.ops, func() { wantErr(t, x.name, x.do(l), api.OK) })
		either(t, d, sectors, x.behind, x.behind)
	}
}

// TestOften: P7.5. Calls in a row, the power going in any of them, and in the Opens between: there is one log of entries, which only grows.
func TestOften(t *testing.T) {
	x := uint32(1)
	next := func(n int) int {
		x = x*1664525 + 1013904223
		return int(x>>16) % n
	}
	const sectors = 3
	d, l := newLog(t, sectors)
	var all []api.Entry // of all times: those that were lost are no more
	from := func(base uint64) []api.Entry {
		for i, e := range all {
			if e.First == base+1 {
				return all[i:]
			}
		}
		return nil
	}
	upTo := func(last uint64) []api.Entry {
		for i, e := range all {
			if e.First > last {
				return all[:i]
			}
		}
		return all
	}
	for i := range 20000 {
		if keys := "a b c d e f"[:2*next(6)+1]; next(3) > 0 {
			if first, e := l.Append(uint64(i+1), ops(keys)); e == api.OK {
				all = append(all, entry(uint64(i+1), first, keys))
			}
		}
		epoch, limit, base, stable, last := l.Epoch(), l.Limit(), l.Base(), l.Stable(), l.Last()
		d.Arm(next(9))
		e, epoch2, limit2, base2, stable2 := api.OK, epoch, limit, base, stable
		switch next(3) {
		case 0:
			e, stable2 = l.Flush(), last
		case 1:
			lsn := base + uint64(next(int(last-base)+3))
			for _, one := range from(base) {
				if end := one.First + uint64(len(one.Ops)) - 1; end <= lsn && end <= stable {
					base2 = end
				}
			}
			e = l.Trim(lsn)
		case 2:
			epoch2, limit2 = epoch+uint64(next(2)), limit+uint64(next(100))
			e = l.Reserve(epoch2, limit2)
		}
		if e == api.OK {
			wantIs(t, l, epoch2, limit2, base2, stable2, from(base2)...)
			continue
		}
		for e != api.OK {
			wantErr(t, "the call, or the Open", e, api.ErrOff)
			again(d, uint8(next(256)), uint8(next(256)), uint8(next(256)))
			d.Arm(next(4))
			l, e = tclog.Open(d, 1, sectors)
		}
		if behind := l.Epoch() == epoch2 && l.Limit() == limit2 && l.Base() == base2 && l.Stable() == stable2; !behind {
			epoch2, limit2, base2, stable2 = epoch, limit, base, stable
		}
		all = upTo(l.Last())
		wantIs(t, l, epoch2, limit2, base2, stable2, from(base2)...)
	}
	if len(all) < 1000 {
		t.Fatalf("only %d entries were ever stable", len(all))
	}
}

// model is a log by another way than the program's: it has a tape alone, and reads all from it each time.
type model struct {
	d     *disk.Disk
	at, n int
	p     *tape.Tape
	over  bool
	told  state // ahead of the end
	ends  []uint64
}

func (m *model) open() api.Errno {
	p, e := tape.Open(m.d, m.at, m.n)
	if e != api.OK {
		return e
	}
	*m = model{d: m.d, at: m.at, n: m.n, p: p}
	if !m.read() {
		return api.ErrBroken
	}
	return api.OK
}

// read reads the tape; it tells whether a log lies on it.
func (m *model) read() bool {
	m.told, m.ends = state{}, nil
	if meta := m.p.Meta(); meta != "" {
		r := wire.NewReader(meta)
		m.told.epoch, m.told.limit, m.told.base = r.Num(), r.Num(), r.Num()
		if !r.End() {
			return false
		}
	}
	m.told.stable = m.told.base
	lsn := m.told.base
	for pos := m.p.Start(); pos < m.p.End(); {
		s, _ := m.p.Read(pos, int(m.p.End()-pos))
		e, n, wrong := lrec.Decode(s)
		if wrong != api.OK || e.First != lsn+1 {
			return false
		}
		pos += uint64(n)
		lsn += uint64(len(e.Ops))
		if pos <= m.p.Stable() {
			m.told.stable = lsn
		}
		m.told.entries = append(m.told.entries, e)
		m.ends = append(m.ends, pos)
	}
	return true
}

// done makes what was answered be the answer: with an error nothing has changed.
func (m *model) done(e api.Errno) api.Errno {
	switch e {
	case api.OK:
		m.read()
	case api.ErrOff:
		m.over = true
	case api.ErrFull:
		return api.ErrLog
	}
	return e
}

func (m *model) last() uint64 {
	last := m.told.base
	for _, e := range m.told.entries {
		last += uint64(len(e.Ops))
	}
	return last
}

func (m *model) append(ts uint64, l []api.Rec) (uint64, api.Errno) {
	if m.over {
		return 0, api.ErrOff
	}
	e := api.Entry{Ts: ts, First: m.last() + 1}
	for i, r := range l {
		e.Ops = append(e.Ops, api.Rec{Key: r.Key, Lsn: e.First + uint64(i), Del: r.Del, Val: r.Val})
	}
	s, wrong := lrec.Encode(e)
	if wrong == api.OK {
		wrong = m.done(m.p.Append(s))
	}
	if wrong != api.OK {
		return 0, wrong
	}
	return e.First, api.OK
}

func (m *model) trim(lsn uint64) api.Errno {
	if m.over {
		return api.ErrOff
	}
	at, base := m.p.Start(), m.told.base
	for i, e := range m.told.entries {
		if last := base + uint64(len(e.Ops)); last <= lsn && last <= m.told.stable {
			at, base = m.ends[i], last
		} else {
			break
		}
	}
	if base == m.told.base {
		return api.OK
	}
	return m.done(m.p.Publish(at, numbers(m.told.epoch, m.told.limit, base)))
}

func (m *model) reserve(epoch, limit uint64) api.Errno {
	switch {
	case m.over:
		return api.ErrOff
	case epoch < m.told.epoch, limit < m.told.limit:
		return api.ErrArg
	}
	return m.done(m.p.Publish(m.p.Start(), numbers(epoch, limit, m.told.base)))
}

// hand takes a script's bytes, one by one; behind its end they are 0.
type hand struct{ rest []byte }

func (h *hand) next() int {
	if len(h.rest) == 0 {
		return 0
	}
	x := int(h.rest[0])
	h.rest = h.rest[1:]
	return x
}

// both does the same with two disks.
func both(d *disk.Disk, m *model, do func(d *disk.Disk)) {
	do(d)
	do(m.d)
}

// run does what the bytes of a script say with a log and with the model, and holds one against the other.
func run(t *testing.T, script []byte) {
	t.Helper()
	d, m := disk.New(7), &model{d: disk.New(7), at: 1, n: 3}
	var l *tclog.Log
	h := &hand{script}
	for step := 0; len(h.rest) > 0; step++ {
		l = runDisk(t, h, d, m, l)
		if l != nil {
			runLog(t, h, l, m)
		}
		wantLike(t, step, d, l, m)
	}
}

// runDisk does what is done with the disk, mostly nothing; it tells the log that is open then.
func runDisk(t *testing.T, h *hand, d *disk.Disk, m *model, l *tclog.Log) *tclog.Log {
	t.Helper()
	switch x := h.next(); x % 32 {
	case 0:
		m.at, m.n = h.next()%5-1, h.next()%5
		wantErr(t, "Format", tclog.Format(d, m.at, m.n), tape.Format(m.d, m.at, m.n))
		fallthrough
	case 1, 2, 3:
		q, e := tclog.Open(d, m.at, m.n)
		wantErr(t, "Open", e, m.open())
		if (q == nil) != (e != api.OK) {
			t.Fatalf("Open: %v, %d", q, e)
		}
		return q
	case 4, 5:
		n := h.next() % 8
		both(d, m, func(d *disk.Disk) { d.Arm(n) })
	case 6:
		both(d, m, func(d *disk.Disk) { d.Off() })
	case 7, 8:
		fates := []uint8{uint8(h.next()), uint8(h.next()), uint8(h.next())}
		both(d, m, func(d *disk.Disk) { again(d, fates...) })
	case 9: // somebody lays something on the tape
		base, meta := uint64(h.next()), ""
		switch x / 32 {
		case 0:
			base = stamp - base/16
		case 1:
			base = huge - base/32
		case 2:
			meta = "x"
		}
		start, size := uint64(h.next()), h.next()
		meta = numbers(start, uint64(size), base) + meta
		s := bytesOf(t, entry(1, base%1000+1+uint64(size/200), "a b"))
		s = s[:min(size%30, len(s))]
		both(d, m, func(d *disk.Disk) {
			if w, e := twin.Open(d, max(m.at, 0)); e == api.OK {
				w.Set(head(start, start, meta))
			}
			if p, e := tape.Open(d, m.at, m.n); e == api.OK {
				p.Append(s)
				p.Flush()
			}
		})
		return nil
	}
	return l
}

// runLog does what is done with a log.
func runLog(t *testing.T, h *hand, l *tclog.Log, m *model) {
	t.Helper()
	x, arg := h.next(), h.next()
	switch x % 8 {
	case 0, 1, 2, 3:
		l1 := ops("a bb ccc -d eeeee " + longKey + " g k")[:min(x/8%16, 8)]
		if x > 250 {
			l1 = ops("a b -a")
		}
		ts := uint64(arg)
		if arg > 200 {
			ts = stamp + uint64(arg) - 220
		}
		first, e := l.Append(ts, l1)
		want, is := m.append(ts, l1)
		if first != want || e != is {
			t.Fatalf("Append(%d, %v): %d, %d; want %d, %d", ts, l1, first, e, want, is)
		}
	case 4, 5:
		is := api.ErrOff
		if !m.over {
			is = m.done(m.p.Flush())
		}
		wantErr(t, "Flush", l.Flush(), is)
	case 6:
		lsn := m.told.base + uint64(arg)%40 - 2
		wantErr(t, "Trim", l.Trim(lsn), m.trim(lsn))
	case 7:
		epoch, limit := m.told.epoch+uint64(arg%8)-1, m.told.limit+uint64(arg/8)-1
		wantErr(t, "Reserve", l.Reserve(epoch, limit), m.reserve(epoch, limit))
	}
}

// wantLike holds all that can be seen of a log and its disk against the model.
func wantLike(t *testing.T, step int, d *disk.Disk, l *tclog.Log, m *model) {
	t.Helper()
	if d.On() != m.d.On() {
		t.Fatalf("step %d: On %v", step, d.On())
	}
	for i := range d.Len() {
		got, e := d.Read(i)
		want, is := m.d.Read(i)
		if got != want || e != is {
			t.Fatalf("step %d: sector %d: %q, %d; want %q, %d", step, i, got, e, want, is)
		}
	}
	if l == nil {
		return
	}
	if !m.told.is(l) || l.Last() != m.last() {
		t.Fatalf("step %d: %d, %d, %d, %d, %d, %v; want %v", step, l.Epoch(), l.Limit(), l.Base(), l.Stable(), l.Last(), l.Entries(), m.told)
	}
}

// TestRows: P7.1 to P7.5. Rows of calls, held against the model.
func TestRows(t *testing.T) {
	x := uint32(7)
	for range 3000 {
		script := make([]byte, 400)
		for i := range script {
			x = x*1664525 + 1013904223
			script[i] = byte(x >> 24)
		}
		script[0], script[1], script[2] = 0, byte(x>>8)%3, byte(x>>16)%2+2
		run(t, script)
	}
}

// FuzzLog: P7.1 to P7.5. A script's calls, held against the model.
func FuzzLog(f *testing.F) {
	f.Add([]byte{0, 2, 3, 16, 1, 10, 4, 0, 10, 6, 255})
	f.Add([]byte{0, 1, 2, 16, 1, 10, 4, 0, 5, 3, 10, 7, 30, 7, 1, 2, 3, 1})
	f.Fuzz(func(t *testing.T, script []byte) {
		if len(script) < 2000 {
			run(t, script)
		}
	})
}
