package slots_test

import (
	"bytes"
	"encoding/binary"
	"math"
	"slices"
	"testing"

	"redwax/api"
	"redwax/disk"
	"redwax/slots"
)

const size = api.SectorSize

// newDisk is a new disk of so many sectors.
func newDisk(t *testing.T, sectors int) *disk.Disk {
	t.Helper()
	d, errno := disk.New(sectors)
	if errno != api.OK {
		t.Fatalf("disk.New(%d): error %d", sectors, errno)
	}
	return d
}

// diskOf is a disk of these bytes; nothing has been written.
func diskOf(t *testing.T, b []byte) *disk.Disk {
	t.Helper()
	d := newDisk(t, len(b)/size)
	wants(t, d.Put(0, b), api.OK)
	return d
}

// cutOff is a disk of these bytes whose power a cut took away, without a byte written.
func cutOff(t *testing.T, b []byte) *disk.Disk {
	t.Helper()
	d := diskOf(t, b)
	takePower(t, d)
	return d
}

// takePower takes the power away by a write from elsewhere, without a byte written.
func takePower(t *testing.T, d *disk.Disk) {
	t.Helper()
	wants(t, d.Cut(0, [16]byte{}), api.OK)
	wants(t, d.Write(0, make([]byte, size)), api.ErrOff)
}

// opened is the log of a region that can be opened.
func opened(t *testing.T, d *disk.Disk, from, sectors int) *slots.Log {
	t.Helper()
	l, errno := slots.Open(d, from, sectors)
	if errno != api.OK || l == nil {
		t.Fatalf("Open(%d, %d): error %d", from, sectors, errno)
	}
	return l
}

// wants checks an error.
func wants(t *testing.T, got, want api.Errno) {
	t.Helper()
	if got != want {
		t.Errorf("error %d, not %d", got, want)
	}
}

// refuses checks that a region can't be opened.
func refuses(t *testing.T, d *disk.Disk, from, sectors int, want api.Errno) {
	t.Helper()
	if l, errno := slots.Open(d, from, sectors); l != nil || errno != want {
		t.Errorf("Open(%d, %d): a log: %v, error %d, not %d", from, sectors, l != nil, errno, want)
	}
}

// same checks the bytes of a disk.
func same(t *testing.T, d *disk.Disk, want []byte) {
	t.Helper()
	if got := d.Bytes(); !bytes.Equal(got, want) {
		t.Errorf("the bytes of the disk are\n%x, not\n%x", got, want)
	}
}

// equal reports whether both have the same records.
func equal(a, b [][]byte) bool {
	return slices.EqualFunc(a, b, bytes.Equal)
}

// holds checks all that a log of a region of so many sectors tells of itself.
func holds(t *testing.T, l *slots.Log, sectors int, want ...[]byte) {
	t.Helper()
	if got := l.All(); !equal(got, want) {
		t.Errorf("%d records, not %d, or others", len(got), len(want))
	}
	used := len(slices.Concat(slotsOf(want...))) / size
	room := -1
	if used < sectors {
		room = min((sectors-used)*size-5, 1<<18)
	}
	if l.Used() != used || l.Room() != room {
		t.Errorf("%d sectors used, room for %d; not %d, %d", l.Used(), l.Room(), used, room)
	}
}

// slotsOf works the sectors of the records' slots out anew.
func slotsOf(records ...[]byte) []byte {
	var b []byte
	for _, r := range records {
		b = append(b, 1)
		b = binary.BigEndian.AppendUint32(b, uint32(len(r)))
		b = append(b, r...)
		for len(b)%size != 0 {
			b = append(b, 0)
		}
	}
	return b
}

// region is slots of these records, and behind them sectors of zeros up to so many.
func region(sectors int, records ...[]byte) []byte {
	b := slotsOf(records...)
	return append(b, make([]byte, sectors*size-len(b))...)
}

// record returns n bytes for a record: behind the head each sector of its slot begins like the head
// of a slot of two bytes, and the rest differ along the way.
func record(n int) []byte {
	b := make([]byte, n)
	for i := range b {
		b[i] = byte(i*7 + i/size*29 + 1)
		if at := (i + 5) % size; at < 5 {
			b[i] = [5]byte{1, 0, 0, 0, 2}[at]
		}
	}
	return b
}

// junk are so many sectors of bytes above 1, but for the first byte of each, which is mark.
func junk(sectors int, mark byte) []byte {
	b := make([]byte, sectors*size)
	for i := range b {
		b[i] = byte(i%251 + 2)
		if i%size == 0 {
			b[i] = mark
		}
	}
	return b
}

// lengths are those of records at which the slot's number of sectors changes, and some others.
var lengths = []int{0, 1, 2, 5, 100, 122, 123, 124, 127, 128, 129, 250, 251, 252, 256, 378, 379, 380, 400}

// strange are numbers that count nothing on a disk.
func strange() []int {
	return []int{math.MinInt, math.MinInt + 1, math.MinInt / size, -1 << 32, -size, -2, -1, 1<<14 + 1, 1 << 31, math.MaxInt / size, math.MaxInt/2 + 1, math.MaxInt - 1, math.MaxInt}
}

// The chapter's examples.
func TestExamples(t *testing.T) {
	d := newDisk(t, 3)
	l := opened(t, d, 0, 3)
	wants(t, l.Append([]byte("ab")), api.OK)
	same(t, d, append([]byte{1, 0, 0, 0, 2, 0x61, 0x62}, make([]byte, 3*size-7)...))
	if l.Room() != 251 {
		t.Errorf("room for %d", l.Room())
	}
	full, short := d.Copy(), d.Copy()
	wants(t, opened(t, full, 0, 3).Append(record(251)), api.OK)
	wants(t, opened(t, short, 0, 3).Append(record(252)), api.ErrFull)
	holds(t, opened(t, full, 0, 3), 3, []byte("ab"), record(251))
	same(t, short, d.Bytes())

	refuses(t, diskOf(t, append([]byte{2}, make([]byte, 3*size-1)...)), 0, 3, api.ErrTamper)
}

// The chapter's example of a cut: what it left behind is not read as a slot later.
func TestExampleOfACut(t *testing.T) {
	d := newDisk(t, 3)
	text := record(200)
	if text[size-5] != 1 {
		t.Fatalf("the first byte behind the first sector is %d", text[size-5])
	}
	wants(t, d.Cut(3, [16]byte{0: 0xfe}), api.OK)
	wants(t, opened(t, d, 0, 3).Append(text), api.ErrOff)
	if b := d.Bytes(); b[0] != 0 || b[size] != 1 {
		t.Errorf("marks %d, %d", b[0], b[size])
	}
	wants(t, d.Restart(), api.OK)
	l := opened(t, d, 0, 3)
	holds(t, l, 3)
	wants(t, l.Append([]byte("ab")), api.OK)
	holds(t, opened(t, d, 0, 3), 3, []byte("ab"))
}

// P9.1: no disk; that comes ahead of the other errors.
func TestOpenOfNoDisk(t *testing.T) {
	value, off := *newDisk(t, 3), *cutOff(t, region(3))
	for _, d := range []*disk.Disk{nil, {}, new(disk.Disk), &value, &off} {
		for _, from := range append(strange(), 0, 1, 3) {
			for _, sectors := range append(strange(), 0, 1, 3) {
				refuses(t, d, from, sectors, api.ErrNil)
			}
		}
	}
}

// P9.1: all regions of a small disk, and those around them; with the power off, ErrArg comes first.
func TestOpenArguments(t *testing.T) {
	const all = 4
	d, off := newDisk(t, all), cutOff(t, region(all))
	for from := -3; from <= all+3; from++ {
		for sectors := -3; sectors <= all+3; sectors++ {
			if from < 0 || sectors < 1 || from+sectors > all {
				refuses(t, d, from, sectors, api.ErrArg)
				refuses(t, off, from, sectors, api.ErrArg)
			} else {
				holds(t, opened(t, d, from, sectors), sectors)
				refuses(t, off, from, sectors, api.ErrOff)
			}
		}
	}
	for _, x := range strange() {
		for _, y := range append(strange(), 0, 1, 2, 3, 4) {
			refuses(t, d, x, y, api.ErrArg)
			refuses(t, d, y, x, api.ErrArg)
			refuses(t, off, x, y, api.ErrArg)
		}
	}
}

// P9.1: with the power off, ErrOff comes ahead of what is on the disk.
func TestOpenWithoutPower(t *testing.T) {
	d := cutOff(t, junk(3, 2))
	refuses(t, d, 0, 3, api.ErrOff)
	wants(t, d.Restart(), api.OK)
	refuses(t, d, 0, 3, api.ErrTamper)
	d = cutOff(t, region(3, record(5)))
	refuses(t, d, 0, 3, api.ErrOff)
	wants(t, d.Restart(), api.OK)
	holds(t, opened(t, d, 0, 3), 3, record(5))
}

// P9.1: two records of all lengths, in front of zeros, of junk behind a mark 0, and of the region's
// end; what is outside the region doesn't count.
func TestOpenReads(t *testing.T) {
	for _, x := range lengths {
		for _, y := range lengths {
			b := slotsOf(record(x), record(y))
			n := len(b) / size
			for _, behind := range [][]byte{make([]byte, 2*size), junk(1, 0), junk(3, 0), nil} {
				d := diskOf(t, slices.Concat(junk(2, 2), b, behind, junk(2, 2)))
				sectors := n + len(behind)/size
				holds(t, opened(t, d, 2, sectors), sectors, record(x), record(y))
			}
		}
	}
}

// P9.1: each mark in the first slot and in one behind it, of a right length.
func TestOpenMarks(t *testing.T) {
	for mark := range 256 {
		for _, first := range [][][]byte{nil, {record(3)}, {record(200), {}}} {
			b := slotsOf(append(slices.Clone(first), record(9))...)
			n := len(b) / size
			b[(n-1)*size] = byte(mark)
			for _, sectors := range []int{n, n + 2} {
				d := diskOf(t, append(slices.Clone(b), make([]byte, (sectors-n)*size)...))
				switch mark {
				case 0:
					holds(t, opened(t, d, 0, sectors), sectors, first...)
				case 1:
					holds(t, opened(t, d, 0, sectors), sectors, append(slices.Clone(first), record(9))...)
				default:
					refuses(t, d, 0, sectors, api.ErrTamper)
				}
			}
		}
	}
}

// P9.1: lengths around those that fit into what is left of the region, and those of four bytes; the
// disk has more sectors than the region.
func TestOpenLengths(t *testing.T) {
	for _, before := range [][][]byte{nil, {record(130)}} {
		used := len(slotsOf(before...)) / size
		for left := 1; left <= 3; left++ {
			fits := left*size - 5
			told := []int{0, 1, fits - 1, fits, fits + 1, fits + size, 1 << 14, 1<<18 - 1, 1 << 18, 1<<18 + 1, 1<<31 - 1, 1 << 31, 1<<32 - 128, 1<<32 - 6, 1<<32 - 5, 1<<32 - 1}
			for _, n := range told {
				b := append(slotsOf(before...), junk(left+4, 0)...)
				b[used*size] = 1
				binary.BigEndian.PutUint32(b[used*size+1:], uint32(n))
				if at := used + (5+n+size-1)/size; at < used+left+4 {
					b[at*size] = 0
				}
				d := diskOf(t, b)
				if n > fits {
					refuses(t, d, 0, used+left, api.ErrTamper)
					continue
				}
				text := b[used*size+5 : used*size+5+n]
				holds(t, opened(t, d, 0, used+left), used+left, append(slices.Clone(before), text)...)
			}
		}
	}
}

// P9.1: the longest record, and one byte more, in regions that are large enough.
func TestOpenOfTheLongest(t *testing.T) {
	for n, want := range map[int]api.Errno{1<<18 - 1: api.OK, 1 << 18: api.OK, 1<<18 + 1: api.ErrTamper, 1<<18 + 123: api.ErrTamper} {
		d := diskOf(t, region(2050, record(n)))
		if want != api.OK {
			refuses(t, d, 0, 2050, want)
			refuses(t, d, 0, 2049, want)
			continue
		}
		holds(t, opened(t, d, 0, 2050), 2050, record(n))
		holds(t, opened(t, d, 0, 2049), 2049, record(n))
		refuses(t, d, 0, 2048, api.ErrTamper)
	}
}

// P9.1: the bytes behind a record, in its last sector, are not among the reasons for an error.
func TestOpenLeavesTheRestAlone(t *testing.T) {
	for _, n := range lengths {
		b := region(6, record(n), record(3))
		end := len(slotsOf(record(n)))
		for i := 5 + n; i < end; i++ {
			b[i] = 255
		}
		holds(t, opened(t, diskOf(t, b), 0, 6), 6, record(n), record(3))
	}
}

// P9.1: nothing is written, so that no cut occurs.
func TestOpenWritesNothing(t *testing.T) {
	whole := append(region(4, record(5), record(300)), junk(4, 2)...)
	d := diskOf(t, whole)
	wants(t, d.Cut(0, [16]byte{}), api.OK)
	opened(t, d, 0, 4)
	refuses(t, d, 0, 5, api.ErrTamper)
	refuses(t, d, 4, 4, api.ErrTamper)
	refuses(t, d, 4, 5, api.ErrArg)
	refuses(t, d, 1, 0, api.ErrArg)
	if d.Off() || d.Writes() != 0 {
		t.Errorf("off is %v, %d writes", d.Off(), d.Writes())
	}
	same(t, d, whole)
}

// P9.3: what can be told of a new log, of all small regions and of great ones.
func TestRoomOfANewLog(t *testing.T) {
	d := newDisk(t, api.MaxSectors)
	for _, sectors := range []int{1, 2, 3, 10, 512, 2047, 2048, 2049, 2050, api.MaxSectors} {
		l := opened(t, d, api.MaxSectors-sectors, sectors)
		holds(t, l, sectors)
		want := sectors*128 - 5
		if sectors >= 2049 {
			want = 1 << 18
		}
		if l.Room() != want {
			t.Errorf("%d sectors: room for %d, not %d", sectors, l.Room(), want)
		}
	}
}

// P9.2, P9.3, P9.6: nil, and logs that Open did not return; ErrNil comes ahead of the other errors.
func TestNoLog(t *testing.T) {
	d, off := newDisk(t, 3), newDisk(t, 3)
	made, made2 := opened(t, d, 0, 3), opened(t, off, 0, 3)
	wants(t, made.Append(record(3)), api.OK)
	wants(t, d.Cut(100, [16]byte{}), api.OK)
	takePower(t, off)
	value, offValue := *made, *made2
	kept := d.Bytes()
	for i, l := range []*slots.Log{nil, {}, new(slots.Log), &value, &offValue} {
		for _, n := range []int{0, 1, 123, 200, 1000, 1 << 18, 1<<18 + 1} {
			wants(t, l.Append(make([]byte, n)), api.ErrNil)
		}
		wants(t, l.Append(nil), api.ErrNil)
		if len(l.All()) != 0 || l.Room() != 0 || l.Used() != 0 {
			t.Errorf("log %d: %d records, room for %d, %d used", i, len(l.All()), l.Room(), l.Used())
		}
	}
	same(t, d, kept)
	wants(t, made.Append(record(4)), api.OK)
	holds(t, made, 3, record(3), record(4))
}

// P9.6: a record is neither changed nor kept, nor what stands behind it.
func TestArgumentsAreLeftAlone(t *testing.T) {
	for _, n := range []int{0, 1, 123, 124, 300} {
		d := newDisk(t, 5)
		l := opened(t, d, 0, 5)
		given := record(600)
		wants(t, l.Append(given[:n]), api.OK)
		if !bytes.Equal(given, record(600)) {
			t.Errorf("the record of %d bytes is changed, or what stands behind it", n)
		}
		clear(given)
		holds(t, l, 5, record(n))
		holds(t, opened(t, d, 0, 5), 5, record(n))
	}
}

// P9.6: each answer is new memory, and so is each of its records.
func TestAnswersAreNew(t *testing.T) {
	d := diskOf(t, region(8, record(3), record(100)))
	l := opened(t, d, 0, 8)
	wants(t, l.Append(record(200)), api.OK)
	wants(t, l.Append(nil), api.OK)
	kept := d.Bytes()
	want := [][]byte{record(3), record(100), record(200), {}}
	first, second := l.All(), l.All()
	for i, r := range first {
		clear(r[:cap(r)])
		if !equal(first[i+1:], want[i+1:]) {
			t.Errorf("record %d shares memory with another one", i)
		}
	}
	first[0], first[1] = nil, nil
	if !equal(second, want) {
		t.Errorf("two answers share memory")
	}
	holds(t, l, 8, want...)
	same(t, d, kept)
	wants(t, d.Put(0, junk(8, 2)), api.OK)
	if !equal(second, want) {
		t.Errorf("an answer hangs on the disk")
	}
}
