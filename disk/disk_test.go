package disk_test

import (
	"math"
	"strings"
	"testing"
	"unsafe"

	"couplet/api"
	"couplet/disk"
)

// full tells a sector full of one letter.
func full(letter string) string { return strings.Repeat(letter, api.Sector) }

var (
	zeros = full("\x00")
	a     = full("a")
	b     = full("b")
	c     = full("c")
)

// mixed tells a sector of all kinds of bytes; those of two seeds below 256 differ at each place.
func mixed(seed int) string {
	l := make([]byte, api.Sector)
	for i := range l {
		l[i] = byte(seed + 37*i)
	}
	return string(l)
}

// newDisk makes a disk whose first sector is a, flushed.
func newDisk(t *testing.T, sectors int) *disk.Disk {
	t.Helper()
	d := disk.New(sectors)
	if d == nil {
		t.Fatalf("New(%d): nil", sectors)
	}
	wantErr(t, "Write(0, a)", d.Write(0, a), api.OK)
	wantErr(t, "Flush", d.Flush(), api.OK)
	return d
}

// wantErr holds what was answered against what was to be.
func wantErr(t *testing.T, what string, got, want api.Errno) {
	t.Helper()
	if got != want {
		t.Fatalf("%s: %d, want %d", what, got, want)
	}
}

// wantRead holds what a sector is.
func wantRead(t *testing.T, d *disk.Disk, i int, want string) {
	t.Helper()
	if got, e := d.Read(i); e != api.OK || got != want {
		t.Fatalf("Read(%d) = %q, %d; want %q", i, got, e, want)
	}
}

// wantNoRead holds that a read is refused.
func wantNoRead(t *testing.T, d *disk.Disk, i int, want api.Errno) {
	t.Helper()
	if got, e := d.Read(i); e != want || got != "" {
		t.Fatalf("Read(%d) = %q, %d; want error %d", i, got, e, want)
	}
}

// again takes the power, and wakes.
func again(d *disk.Disk, fates ...uint8) {
	d.Off()
	d.Wake(fates)
}

// TestExamples: P3.1 to P3.3. The chapter's, one behind the other.
func TestExamples(t *testing.T) {
	d := disk.New(4)
	wantRead(t, d, 1, zeros)
	wantErr(t, "Write", d.Write(1, a), api.OK)
	wantRead(t, d, 1, a)
	wantErr(t, "Flush", d.Flush(), api.OK)
	wantErr(t, "Write", d.Write(1, b), api.OK)
	wantRead(t, d, 1, b)

	d.Off()
	wantNoRead(t, d, 1, api.ErrOff)
	d.Wake([]uint8{0})
	wantRead(t, d, 1, a)

	wantErr(t, "Write", d.Write(1, b), api.OK)
	again(d, 1)
	wantRead(t, d, 1, b)

	wantErr(t, "Flush", d.Flush(), api.OK)
	wantErr(t, "Write", d.Write(1, a), api.OK)
	again(d, 5)
	wantRead(t, d, 1, "aaaaa"+b[5:])

	d.Arm(2)
	wantErr(t, "Write", d.Write(0, a), api.OK)
	wantErr(t, "Flush", d.Flush(), api.ErrOff)
	if d.On() {
		t.Fatal("the power is on, and its fuse is burnt")
	}
	d.Wake(nil)
	wantRead(t, d, 0, zeros)

	wantNoRead(t, d, 4, api.ErrRange)
	wantNoRead(t, d, -1, api.ErrRange)
	wantErr(t, "Write of one byte", d.Write(0, "a"), api.ErrArg)
}

// TestNew: P3.1.
func TestNew(t *testing.T) {
	for _, n := range []int{0, -1, math.MinInt, 4097, 1 << 20, math.MaxInt} {
		if disk.New(n) != nil {
			t.Errorf("New(%d) is a disk", n)
		}
	}
	for _, n := range []int{1, 2, 100, 4095, 4096} {
		d := disk.New(n)
		if d == nil || d.Len() != n || !d.On() {
			t.Fatalf("New(%d): Len %d, On %v", n, d.Len(), d.On())
		}
		for i := range n {
			wantRead(t, d, i, zeros)
		}
		wantNoRead(t, d, n, api.ErrRange)
		wantErr(t, "Write of the last", d.Write(n-1, a), api.OK)
		wantRead(t, d, n-1, a)
		d.Off()
		if d.Len() != n || d.On() {
			t.Errorf("New(%d), Off: Len %d, On %v", n, d.Len(), d.On())
		}
	}
}

// TestNoFuseAtFirst: P3.1. A new disk, and one whose fuse was taken away, have the power for as long as it is left to them.
func TestNoFuseAtFirst(t *testing.T) {
	for _, n := range []int{0, -1, math.MinInt} {
		d := disk.New(2)
		for range 2 {
			for range 1000 {
				wantErr(t, "Write", d.Write(1, a), api.OK)
				wantErr(t, "Flush", d.Flush(), api.OK)
			}
			d.Arm(2)
			d.Arm(n)
		}
	}
}

// TestFuse: P3.1, P3.2. A fuse of n lets n - 1 operations be done, and takes the power at the next one.
func TestFuse(t *testing.T) {
	for n := 1; n <= 20; n++ {
		for flush := 1; flush <= 4; flush++ {
			d := disk.New(2)
			d.Arm(n)
			for i := 1; i <= n; i++ {
				want := api.OK
				if i == n {
					want = api.ErrOff
				}
				if i%flush == 0 {
					wantErr(t, "Flush", d.Flush(), want)
				} else {
					wantErr(t, "Write", d.Write(0, mixed(i)), want)
				}
				if d.On() != (i < n) {
					t.Fatalf("Arm(%d), %d operations: On %v", n, i, d.On())
				}
			}
			d.Wake(nil)
			for range 50 {
				wantErr(t, "Write behind the fuse", d.Write(0, a), api.OK)
			}
		}
	}
}

// TestFuseTells: P3.1. The last number that is told is the fuse.
func TestFuseTells(t *testing.T) {
	d := disk.New(1)
	d.Arm(1)
	d.Arm(3)
	wantErr(t, "first", d.Write(0, a), api.OK)
	wantErr(t, "second", d.Flush(), api.OK)
	wantErr(t, "third", d.Flush(), api.ErrOff)

	d.Wake(nil)
	d.Arm(math.MaxInt)
	d.Arm(1)
	wantErr(t, "the only one", d.Write(0, b), api.ErrOff)
	d.Wake([]uint8{1, 1})
	wantRead(t, d, 0, a)
}

// TestFuseLeft: P3.2. Reads, and what is refused for another reason, are no operations.
func TestFuseLeft(t *testing.T) {
	d := newDisk(t, 2)
	d.Arm(2)
	for range 5 {
		wantRead(t, d, 0, a)
		wantNoRead(t, d, 2, api.ErrRange)
		wantErr(t, "Write(2)", d.Write(2, a), api.ErrRange)
		wantErr(t, "Write(-1)", d.Write(-1, a), api.ErrRange)
		wantErr(t, "Write of none", d.Write(0, ""), api.ErrArg)
		d.Wake([]uint8{0})
		d.Copy()
		if d.Len() != 2 || !d.On() {
			t.Fatal("the power went without an operation")
		}
	}
	wantErr(t, "Write", d.Write(0, b), api.OK)
	wantErr(t, "Write(2)", d.Write(2, a), api.ErrRange)
	wantErr(t, "Write(0, a b)", d.Write(0, a+b), api.ErrArg)
	wantErr(t, "Write", d.Write(0, c), api.ErrOff)
}

// TestFuseGone: P3.1. When the power goes, the fuse is gone; one that is set while the power is off is not burnt by what is refused.
func TestFuseGone(t *testing.T) {
	d := newDisk(t, 2)
	d.Arm(3)
	wantErr(t, "Write", d.Write(0, b), api.OK)
	again(d)
	for range 10 {
		wantErr(t, "Write behind Off", d.Write(0, b), api.OK)
		wantErr(t, "Flush behind Off", d.Flush(), api.OK)
	}

	d.Off()
	d.Arm(2)
	for range 5 {
		wantErr(t, "Write, off", d.Write(0, c), api.ErrOff)
		wantErr(t, "Flush, off", d.Flush(), api.ErrOff)
	}
	d.Wake(nil)
	wantErr(t, "first", d.Flush(), api.OK)
	wantErr(t, "second", d.Flush(), api.ErrOff)

	d.Arm(1)
	again(d)
	wantErr(t, "Write", d.Write(0, c), api.OK)
	wantErr(t, "Flush", d.Flush(), api.OK)
	wantRead(t, d, 0, c)
}

// TestRefused: P3.2. Which error is the first one; nothing has changed.
func TestRefused(t *testing.T) {
	d := newDisk(t, 3)
	wantErr(t, "Write(1, b)", d.Write(1, b), api.OK)
	for _, i := range []int{3, 4, -1, 4096, math.MaxInt, math.MinInt} {
		wantNoRead(t, d, i, api.ErrRange)
		wantErr(t, "Write", d.Write(i, a), api.ErrRange)
		wantErr(t, "Write of none", d.Write(i, ""), api.ErrRange)
	}
	for _, s := range []string{"", "a", a[1:], a + "a", a + a} {
		wantErr(t, "Write", d.Write(1, s), api.ErrArg)
	}
	d.Off()
	for _, i := range []int{0, 3, -1} {
		wantNoRead(t, d, i, api.ErrOff)
		wantErr(t, "Write", d.Write(i, a), api.ErrOff)
		wantErr(t, "Write of none", d.Write(i, ""), api.ErrOff)
	}
	wantErr(t, "Flush", d.Flush(), api.ErrOff)
	d.Wake([]uint8{1})
	wantRead(t, d, 0, a)
	wantRead(t, d, 1, b)
	wantRead(t, d, 2, zeros)
}

// TestBurntIsNotDone: P3.2. The operation at which the power goes is not done, and a write of it has no fate.
func TestBurntIsNotDone(t *testing.T) {
	d := newDisk(t, 2)
	wantErr(t, "Write(0, b)", d.Write(0, b), api.OK)
	d.Arm(1)
	wantErr(t, "Flush", d.Flush(), api.ErrOff)
	d.Wake(nil)
	wantRead(t, d, 0, a)

	wantErr(t, "Write(0, b)", d.Write(0, b), api.OK)
	d.Arm(1)
	wantErr(t, "Write(0, c)", d.Write(0, c), api.ErrOff)
	d.Wake([]uint8{1, 1, 1})
	wantRead(t, d, 0, b)
}

// TestFates: P3.3. Each fate, on a write to a sector that was flushed.
func TestFates(t *testing.T) {
	for f := range 256 {
		d := newDisk(t, 2)
		wantErr(t, "Write(0, b)", d.Write(0, b), api.OK)
		again(d, uint8(f))
		n := f % 128
		switch f {
		case 0:
			n = 0
		case 1:
			n = 128
		}
		wantRead(t, d, 0, b[:n]+a[n:])
		wantRead(t, d, 1, zeros)
	}
}

// TestFateOfNone: P3.3. Where there is no fate it is 0; fates without a write do nothing.
func TestFateOfNone(t *testing.T) {
	for _, fates := range [][]uint8{nil, {}, {1}, {1, 1}, {1, 1, 1}, {1, 1, 1, 1, 70, 1}} {
		d := newDisk(t, 4)
		for i := range 3 {
			wantErr(t, "Write", d.Write(i, b), api.OK)
		}
		again(d, fates...)
		for i := range 4 {
			want := zeros
			switch {
			case i < 3 && i < len(fates):
				want = b
			case i == 0:
				want = a
			}
			wantRead(t, d, i, want)
		}
	}
}

// TestFatesInOrder: P3.3. Writes to one sector have their fates one behind the other, each on what those ahead left.
func TestFatesInOrder(t *testing.T) {
	for _, k := range []struct {
		fates []uint8
		want  string
	}{
		{[]uint8{1, 1}, c},
		{[]uint8{1, 0}, b},
		{[]uint8{0, 1}, c},
		{[]uint8{0, 0}, a},
		{[]uint8{1, 5}, c[:5] + b[5:]},
		{[]uint8{5, 1}, c},
		{[]uint8{7, 5}, c[:5] + b[5:7] + a[7:]},
		{[]uint8{5, 7}, c[:7] + a[7:]},
		{[]uint8{127, 128}, b[:127] + a[127:]},
		{[]uint8{129, 0}, b[:1] + a[1:]},
		{[]uint8{255, 130}, c[:2] + b[2:127] + a[127:]},
		{[]uint8{9}, b[:9] + a[9:]},
	} {
		d := newDisk(t, 2)
		wantErr(t, "Write(0, b)", d.Write(0, b), api.OK)
		wantErr(t, "Write(0, c)", d.Write(0, c), api.OK)
		again(d, k.fates...)
		wantRead(t, d, 0, k.want)
	}
}

// TestWakeWhileOn: P3.3. A Wake while the power is on does nothing: what is unflushed stays so.
func TestWakeWhileOn(t *testing.T) {
	d := newDisk(t, 2)
	wantErr(t, "Write(0, b)", d.Write(0, b), api.OK)
	d.Wake([]uint8{0})
	wantRead(t, d, 0, b)
	d.Wake([]uint8{1})
	d.Wake(nil)
	again(d)
	wantRead(t, d, 0, a)
}

// TestNothingUnflushed: P3.3. What a Wake left is not unflushed any more: it has no second fate.
func TestNothingUnflushed(t *testing.T) {
	for f := range 256 {
		d := newDisk(t, 2)
		wantErr(t, "Write(0, b)", d.Write(0, b), api.OK)
		again(d, uint8(f))
		was, _ := d.Read(0)
		again(d)
		wantRead(t, d, 0, was)
		again(d, 1, 1)
		wantRead(t, d, 0, was)
		wantErr(t, "Write(1, c)", d.Write(1, c), api.OK)
		again(d, 1)
		wantRead(t, d, 0, was)
		wantRead(t, d, 1, c)
	}
}

// TestFlushed: P3.2, P3.4. A write that was flushed has no fate, and the next one's fate is the first one.
func TestFlushed(t *testing.T) {
	d := newDisk(t, 3)
	wantErr(t, "Write(0, b)", d.Write(0, b), api.OK)
	wantErr(t, "Write(0, c)", d.Write(0, c), api.OK)
	wantErr(t, "Flush", d.Flush(), api.OK)
	wantErr(t, "Flush of nothing", d.Flush(), api.OK)
	wantErr(t, "Write(1, b)", d.Write(1, b), api.OK)
	wantErr(t, "Write(2, b)", d.Write(2, b), api.OK)
	again(d, 0, 1)
	wantRead(t, d, 0, c)
	wantRead(t, d, 1, zeros)
	wantRead(t, d, 2, b)
}

// TestOffTwice: P3.1. Power that is off stays so, and what is unflushed has its fates at the Wake.
func TestOffTwice(t *testing.T) {
	d := newDisk(t, 2)
	wantErr(t, "Write(0, b)", d.Write(0, b), api.OK)
	d.Off()
	d.Off()
	if d.On() {
		t.Fatal("the power is on behind two Offs")
	}
	d.Wake([]uint8{1})
	if !d.On() {
		t.Fatal("the power is off behind a Wake")
	}
	wantRead(t, d, 0, b)
}

// TestCopy: P3.1. The same in all: sectors, what is unflushed, power, fuse.
func TestCopy(t *testing.T) {
	d := newDisk(t, 3)
	wantErr(t, "Write(0, b)", d.Write(0, b), api.OK)
	wantErr(t, "Write(1, b)", d.Write(1, b), api.OK)
	d.Arm(2)
	on := d.Copy()
	if on.Len() != 3 || !on.On() {
		t.Fatalf("a copy: Len %d, On %v", on.Len(), on.On())
	}
	wantRead(t, on, 0, b)
	wantErr(t, "Write(2, c) of the copy", on.Write(2, c), api.OK)
	wantErr(t, "Flush of the copy", on.Flush(), api.ErrOff)
	wantRead(t, d, 2, zeros)

	d.Off()
	off := d.Copy()
	if off.On() || off.Len() != 3 {
		t.Fatal("a copy of what is off is on")
	}
	off.Wake([]uint8{1})
	wantRead(t, off, 0, b)
	wantRead(t, off, 1, zeros)
	on.Wake([]uint8{0, 7, 1})
	wantRead(t, on, 0, a)
	wantRead(t, on, 1, b[:7]+zeros[7:])
	wantRead(t, on, 2, c)
	d.Wake([]uint8{5, 1})
	wantRead(t, d, 0, b[:5]+a[5:])
	wantRead(t, d, 1, b)
	wantRead(t, d, 2, zeros)
}

// TestCopyGoesItsOwnWay: P3.1. Nothing that is done with one is seen in the other one.
func TestCopyGoesItsOwnWay(t *testing.T) {
	d := newDisk(t, 2)
	for range 3 {
		wantErr(t, "Write(1, b)", d.Write(1, b), api.OK)
	}
	e := d.Copy()
	wantErr(t, "Write(1, c) of the copy", e.Write(1, c), api.OK)
	wantErr(t, "Write(0, b)", d.Write(0, b), api.OK)
	wantRead(t, e, 0, a)
	wantRead(t, d, 1, b)
	again(e, 0, 0, 0, 1)
	again(d, 0, 0, 0, 1)
	wantRead(t, e, 0, a)
	wantRead(t, e, 1, c)
	wantRead(t, d, 0, b)
	wantRead(t, d, 1, zeros)

	e = d.Copy()
	wantErr(t, "Write(0, c)", d.Write(0, c), api.OK)
	wantErr(t, "Flush", d.Flush(), api.OK)
	d.Arm(1)
	d.Off()
	if !e.On() {
		t.Fatal("a copy went off with the other one")
	}
	again(e)
	wantRead(t, e, 0, b)
	wantErr(t, "Flush of the copy", e.Flush(), api.OK)
}

// TestNoDisk: R3.
func TestNoDisk(t *testing.T) {
	var none *disk.Disk
	none.Arm(1)
	none.Off()
	none.Wake([]uint8{1})
	if none.Len() != 0 || none.On() || none.Copy() != nil {
		t.Error("what is none is a disk")
	}
	for _, i := range []int{0, -1} {
		wantNoRead(t, none, i, api.ErrNil)
		wantErr(t, "Write", none.Write(i, a), api.ErrNil)
		wantErr(t, "Write of none", none.Write(i, ""), api.ErrNil)
	}
	wantErr(t, "Flush", none.Flush(), api.ErrNil)
}

// TestNotMade: R1. A disk that New did not make has no power, and no sectors; it answers.
func TestNotMade(t *testing.T) {
	d := &disk.Disk{}
	wantNoRead(t, d, 0, api.ErrOff)
	d.Wake([]uint8{1})
	wantNoRead(t, d, 0, api.ErrRange)
	wantErr(t, "Write", d.Write(0, a), api.ErrRange)
	wantErr(t, "Flush", d.Copy().Flush(), api.OK)
}

// TestNotKept: R5. What is handed in is neither kept nor changed, what is answered is new.
func TestNotKept(t *testing.T) {
	d := newDisk(t, 1)
	handed := []byte(b)
	wantErr(t, "Write", d.Write(0, unsafe.String(&handed[0], len(handed))), api.OK)
	clear(handed)
	wantRead(t, d, 0, b)
	read, _ := d.Read(0)
	wantErr(t, "Write", d.Write(0, c), api.OK)
	if read != b {
		t.Errorf("%q has changed with the sector", read)
	}
	fates := []uint8{1, 3, 200}
	again(d, fates...)
	if fates[0] != 1 || fates[1] != 3 || fates[2] != 200 {
		t.Errorf("fates that were handed in are %v", fates)
	}
	clear(fates)
	wantRead(t, d, 0, c[:3]+b[3:])
}

// put is a write of the model.
type put struct {
	at int
	s  string
}

// model is a disk by another way than the program's: what a byte is, is looked up from the last write back.
type model struct {
	flushed []string
	puts    []put
	off     bool
	fuse    int
}

func newModel(sectors int) *model {
	m := &model{}
	for range sectors {
		m.flushed = append(m.flushed, zeros)
	}
	return m
}

// byteAt tells a byte, where the first so many bytes of each write stay.
func (m *model) byteAt(at, i int, stay func(int) int) byte {
	for k := len(m.puts) - 1; k >= 0; k-- {
		if m.puts[k].at == at && i < stay(k) {
			return m.puts[k].s[i]
		}
	}
	return m.flushed[at][i]
}

// as tells all sectors, where the first so many bytes of each write stay.
func (m *model) as(stay func(int) int) []string {
	var l []string
	for at := range m.flushed {
		s := make([]byte, api.Sector)
		for i := range s {
			s[i] = m.byteAt(at, i, stay)
		}
		l = append(l, string(s))
	}
	return l
}

func all(int) int { return api.Sector }

func (m *model) now() []string { return m.as(all) }

// burnt tells whether the power goes at this operation.
func (m *model) burnt() bool {
	if m.fuse == 1 {
		m.off = true
	}
	m.fuse = max(0, m.fuse-1)
	return m.off
}

func (m *model) write(at int, s string) api.Errno {
	if m.off {
		return api.ErrOff
	}
	if at < 0 || at >= len(m.flushed) {
		return api.ErrRange
	}
	if len(s) != 128 {
		return api.ErrArg
	}
	if m.burnt() {
		return api.ErrOff
	}
	m.puts = append(m.puts, put{at, s})
	return api.OK
}

func (m *model) flush() api.Errno {
	if m.off || m.burnt() {
		return api.ErrOff
	}
	m.flushed, m.puts = m.now(), nil
	return api.OK
}

func (m *model) wake(fates []uint8) {
	if !m.off {
		return
	}
	m.flushed = m.as(func(k int) int {
		switch {
		case k >= len(fates):
			return 0
		case fates[k] == 1:
			return 128
		}
		return int(fates[k]) & 127
	})
	m.puts, m.off = nil, false
}

func (m *model) copy() *model {
	n := *m
	n.flushed = append([]string(nil), m.flushed...)
	n.puts = append([]put(nil), m.puts...)
	return &n
}

// wantLike holds all that can be seen of a disk against the model.
func wantLike(t *testing.T, step int, d *disk.Disk, m *model) {
	t.Helper()
	if d.On() == m.off || d.Len() != len(m.flushed) {
		t.Fatalf("step %d: On %v, Len %d", step, d.On(), d.Len())
	}
	for i, want := range m.now() {
		got, e := d.Read(i)
		if m.off && (e != api.ErrOff || got != "") || !m.off && (e != api.OK || got != want) {
			t.Fatalf("step %d: Read(%d) = %q, %d; off %v, want %q", step, i, got, e, m.off, want)
		}
	}
}

// run does what the bytes of a script say with a disk and with the model, and holds one against the other.
func run(t *testing.T, script []byte) {
	t.Helper()
	const sectors = 3
	d, m := disk.New(sectors), newModel(sectors)
	for i, x := range script {
		arg := int(x >> 3)
		switch x & 7 {
		case 0, 1, 2:
			at, s := arg%(sectors+1), mixed(i)
			if arg == 31 {
				at, s = -1, s[1:]
			}
			wantErr(t, "Write", d.Write(at, s), m.write(at, s))
		case 3:
			wantErr(t, "Flush", d.Flush(), m.flush())
		case 4:
			d.Arm(arg%6 - 1)
			m.fuse = max(0, arg%6-1)
		case 5:
			d.Off()
			m.off, m.fuse = true, 0
		case 6: // the script's next bytes are the fates
			fates := script[i+1 : min(i+1+arg%8, len(script))]
			d.Wake(fates)
			m.wake(fates)
		case 7: // go on with the copy, and spoil the other one
			e := d.Copy()
			d.Write(0, full("x"))
			d.Off()
			d.Wake([]uint8{1, 1, 1, 1})
			d, m = e, m.copy()
		}
		wantLike(t, i, d, m)
	}
}

// TestLikeModel: P3.1 to P3.3. Many rows of calls.
func TestLikeModel(t *testing.T) {
	x := uint32(1)
	for range 3000 {
		script := make([]byte, 60)
		for i := range script {
			x = x*1664525 + 1013904223
			script[i] = byte(x >> 24)
		}
		run(t, script)
	}
}

// holdByteByByte holds that each byte is what it was at the last flush, or what a write behind that gave it at that place.
func holdByteByByte(t *testing.T, d *disk.Disk, flushed []string, writes []put) {
	t.Helper()
	for at, was := range flushed {
		got, e := d.Read(at)
		wantErr(t, "Read", e, api.OK)
		for i := range got {
			known := got[i] == was[i]
			for _, w := range writes {
				known = known || w.at == at && w.s[i] == got[i]
			}
			if !known {
				t.Fatalf("sector %d, byte %d: %d is of no write", at, i, got[i])
			}
		}
	}
}

// TestByteByByte: P3.4. Wherever the power goes, and whatever becomes of what is unflushed; sector 3 is never written behind its flush.
func TestByteByByte(t *testing.T) {
	fates := []uint8{0, 1, 2, 63, 127, 128, 129, 254, 255}
	writes := []put{{0, mixed(10)}, {1, mixed(20)}, {0, mixed(30)}, {2, mixed(40)}, {0, mixed(50)}}
	flushed := []string{mixed(1), mixed(2), mixed(3), mixed(4)}
	for done := range len(writes) + 1 {
		x := uint32(done + 1)
		for range 2000 {
			d := disk.New(len(flushed))
			for at, s := range flushed {
				wantErr(t, "Write", d.Write(at, s), api.OK)
			}
			wantErr(t, "Flush", d.Flush(), api.OK)
			d.Arm(done + 1)
			var befell []uint8
			for i, w := range writes {
				if e := d.Write(w.at, w.s); (e == api.OK) != (i < done) {
					t.Fatalf("Arm(%d): write %d: %d", done+1, i+1, e)
				}
				x = x*1664525 + 1013904223
				befell = append(befell, fates[x>>16%uint32(len(fates))])
			}
			d.Off()
			d.Wake(befell)
			holdByteByByte(t, d, flushed, writes[:done])
			wantRead(t, d, 3, flushed[3])
		}
	}
}

// TestStaysFlushed: P3.4. What was flushed, and not written since, stays, however often the power goes.
func TestStaysFlushed(t *testing.T) {
	d := disk.New(8)
	for at := range 8 {
		wantErr(t, "Write", d.Write(at, mixed(at)), api.OK)
	}
	wantErr(t, "Flush", d.Flush(), api.OK)
	for f := range 256 {
		wantErr(t, "Write", d.Write(3, mixed(f)), api.OK)
		wantErr(t, "Write", d.Write(5, mixed(f+1)), api.OK)
		again(d, uint8(f), uint8(255-f), 1, 1)
		for _, at := range []int{0, 1, 2, 4, 6, 7} {
			wantRead(t, d, at, mixed(at))
		}
	}
}

// FuzzDisk: P3.1 to P3.3.
func FuzzDisk(f *testing.F) {
	f.Add([]byte{0, 3, 8, 5, 6 + 1<<3, 5})
	f.Add([]byte{4 + 3<<3, 0, 3, 14, 1})
	f.Fuzz(func(t *testing.T, script []byte) {
		if len(script) <= 200 {
			run(t, script)
		}
	})
}
