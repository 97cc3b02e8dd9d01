package epoch_test

import (
	"bytes"
	"math"
	"slices"
	"testing"

	"redwax/api"
	"redwax/disk"
	"redwax/epoch"
)

const size = api.SectorSize

// newDisk is a new disk of so many sectors.
func newDisk(t *testing.T, sectors int) *disk.Disk {
	t.Helper()
	d, errno := disk.New(sectors)
	if errno != api.OK {
		t.Fatalf("disk.New(%d): error %d", sectors, errno)
	}
	return d
}

// diskOf is a disk of these bytes; nothing has been written.
func diskOf(t *testing.T, b []byte) *disk.Disk {
	t.Helper()
	d := newDisk(t, len(b)/size)
	wants(t, d.Put(0, b), api.OK)
	return d
}

// cutOff is a disk of these bytes whose power a cut took away, without a byte written.
func cutOff(t *testing.T, b []byte) *disk.Disk {
	t.Helper()
	d := diskOf(t, b)
	takePower(t, d)
	return d
}

// takePower takes the power away by a write from elsewhere, without a byte written.
func takePower(t *testing.T, d *disk.Disk) {
	t.Helper()
	wants(t, d.Cut(0, [16]byte{}), api.OK)
	wants(t, d.Write(0, make([]byte, size)), api.ErrOff)
}

// opened is the counter of a region that can be opened.
func opened(t *testing.T, d *disk.Disk, from, sectors int) *epoch.Counter {
	t.Helper()
	c, errno := epoch.Open(d, from, sectors)
	if errno != api.OK || c == nil {
		t.Fatalf("Open(%d, %d): error %d", from, sectors, errno)
	}
	return c
}

// wants checks an error.
func wants(t *testing.T, got, want api.Errno) {
	t.Helper()
	if got != want {
		t.Errorf("error %d, not %d", got, want)
	}
}

// has checks a value.
func has(t *testing.T, c *epoch.Counter, want int) {
	t.Helper()
	if got := c.Value(); got != want {
		t.Errorf("the value is %d, not %d", got, want)
	}
}

// refuses checks that a region can't be opened.
func refuses(t *testing.T, d *disk.Disk, from, sectors int, want api.Errno) {
	t.Helper()
	if c, errno := epoch.Open(d, from, sectors); c != nil || errno != want {
		t.Errorf("Open(%d, %d): a counter: %v, error %d, not %d", from, sectors, c != nil, errno, want)
	}
}

// same checks the bytes of a disk, and how many sectors have been written.
func same(t *testing.T, d *disk.Disk, want []byte, writes int) {
	t.Helper()
	if got := d.Bytes(); !bytes.Equal(got, want) {
		t.Errorf("the bytes of the disk are\n%x, not\n%x", got, want)
	}
	if d.Writes() != writes {
		t.Errorf("%d sectors written, not %d", d.Writes(), writes)
	}
}

// ones are so many sectors with so many bytes 1 at the front, and zeros behind them.
func ones(sectors, n int) []byte {
	b := make([]byte, sectors*size)
	copy(b, bytes.Repeat([]byte{1}, n))
	return b
}

// junk are so many sectors of bytes above 1.
func junk(sectors int) []byte {
	b := make([]byte, sectors*size)
	for i := range b {
		b[i] = byte(i%251 + 2)
	}
	return b
}

// strange are numbers that count nothing on a disk.
func strange() []int {
	return []int{math.MinInt, math.MinInt + 1, math.MinInt / size, -1 << 32, -size, -2, -1, 1<<14 + 1, 1 << 31, math.MaxInt / size, math.MaxInt/2 + 1, math.MaxInt - 1, math.MaxInt}
}

// The chapter's examples.
func TestExamples(t *testing.T) {
	has(t, opened(t, newDisk(t, 2), 0, 2), 0)
	has(t, opened(t, diskOf(t, append([]byte{1, 1}, make([]byte, 2*size-2)...)), 0, 2), 2)
	refuses(t, diskOf(t, append([]byte{0, 1}, make([]byte, 2*size-2)...)), 0, 2, api.ErrTamper)
}

// P10.1: no disk; that comes ahead of the other errors.
func TestOpenOfNoDisk(t *testing.T) {
	value, off := *newDisk(t, 3), *cutOff(t, junk(3))
	for _, d := range []*disk.Disk{nil, {}, new(disk.Disk), &value, &off} {
		for _, from := range append(strange(), 0, 1, 3) {
			for _, sectors := range append(strange(), 0, 1, 3) {
				refuses(t, d, from, sectors, api.ErrNil)
			}
		}
	}
}

// P10.1: all regions of a small disk, and those around them. A region of no sectors can be read, so
// that with the power off Read's error comes first; ErrArg comes ahead of ErrTamper.
func TestOpenArguments(t *testing.T) {
	const all = 4
	on, off, wrong := newDisk(t, all), cutOff(t, junk(all)), diskOf(t, junk(all))
	for from := -3; from <= all+3; from++ {
		for sectors := -3; sectors <= all+3; sectors++ {
			switch {
			case from < 0 || sectors < 0 || from+sectors > all:
				for _, d := range []*disk.Disk{on, off, wrong} {
					refuses(t, d, from, sectors, api.ErrArg)
				}
			case sectors == 0:
				refuses(t, on, from, sectors, api.ErrArg)
				refuses(t, off, from, sectors, api.ErrOff)
				refuses(t, wrong, from, sectors, api.ErrArg)
			default:
				has(t, opened(t, on, from, sectors), 0)
				refuses(t, off, from, sectors, api.ErrOff)
				refuses(t, wrong, from, sectors, api.ErrTamper)
			}
		}
	}
	same(t, on, make([]byte, all*size), 0)
	same(t, off, junk(all), 1)
	same(t, wrong, junk(all), 0)
}

// P10.1: regions far outside of the disk, with the power on and off.
func TestOpenFarOutside(t *testing.T) {
	on, off := newDisk(t, 2), cutOff(t, junk(2))
	for _, x := range strange() {
		for _, y := range append(strange(), 0, 1, 2, 3) {
			for _, d := range []*disk.Disk{on, off} {
				refuses(t, d, x, y, api.ErrArg)
				refuses(t, d, y, x, api.ErrArg)
			}
		}
	}
}

// P10.1: with the power off, ErrOff comes ahead of what is on the disk.
func TestOpenWithoutPower(t *testing.T) {
	d := cutOff(t, junk(2))
	refuses(t, d, 0, 2, api.ErrOff)
	wants(t, d.Restart(), api.OK)
	refuses(t, d, 0, 2, api.ErrTamper)
	d = cutOff(t, ones(2, 130))
	refuses(t, d, 0, 2, api.ErrOff)
	wants(t, d.Restart(), api.OK)
	has(t, opened(t, d, 0, 2), 130)
}

// P10.1: each value from 0 to the bound, between sectors that are not the counter's. Nothing is
// written.
func TestOpenReadsEachValue(t *testing.T) {
	for sectors := 1; sectors <= 4; sectors++ {
		for n := range sectors*size + 1 {
			b := slices.Concat(junk(2), ones(sectors, n), junk(1))
			d := diskOf(t, b)
			c := opened(t, d, 2, sectors)
			for range 2 {
				has(t, c, n)
			}
			same(t, d, b, 0)
		}
	}
}

// P10.1: each value with one byte that is another one, anywhere: ErrTamper, unless it is the last
// one of those that count or the first one behind them, with 0 and 1 changed.
func TestOneByteWrong(t *testing.T) {
	const sectors = 2
	d := newDisk(t, sectors)
	for n := range sectors*size + 1 {
		b := ones(sectors, n)
		wants(t, d.Put(0, b), api.OK)
		for i, was := range b {
			for _, x := range []byte{0, 1, 2, 0x80, 0xff} {
				if x == was {
					continue
				}
				wants(t, d.Put(i, []byte{x}), api.OK)
				switch {
				case x == 0 && i == n-1:
					has(t, opened(t, d, 0, sectors), n-1)
				case x == 1 && i == n:
					has(t, opened(t, d, 0, sectors), n+1)
				default:
					refuses(t, d, 0, sectors, api.ErrTamper)
				}
				wants(t, d.Put(i, []byte{was}), api.OK)
			}
		}
	}
	same(t, d, ones(sectors, sectors*size), 0)
}

// P10.1: each byte at some places: none but 0 and 1 is a counter's.
func TestEachByte(t *testing.T) {
	for _, n := range []int{0, 1, 5, size - 1, size, size + 1, 2*size - 1} {
		for x := range 256 {
			b := ones(2, n)
			b[n] = byte(x)
			if d := diskOf(t, b); x < 2 {
				has(t, opened(t, d, 0, 2), n+x)
			} else {
				refuses(t, d, 0, 2, api.ErrTamper)
			}
		}
	}
}

// P10.1: all beginnings of some bytes, held against a second working-out: a counter's bytes never
// rise, and are 0 and 1 alone. The same at the region's end, behind bytes 1.
func TestAllShortCounters(t *testing.T) {
	const length, kinds = 6, 3
	for number := range 729 {
		b := make([]byte, length)
		for i := range b {
			b[i] = byte(number % kinds)
			number /= kinds
		}
		sum, right := 0, true
		for i, x := range b {
			sum += int(x)
			right = right && x < 2 && (i == 0 || x <= b[i-1])
		}
		front := ones(1, 0)
		copy(front, b)
		behind := ones(1, size)
		copy(behind[size-length:], b)
		if !right {
			refuses(t, diskOf(t, front), 0, 1, api.ErrTamper)
			refuses(t, diskOf(t, behind), 0, 1, api.ErrTamper)
			continue
		}
		has(t, opened(t, diskOf(t, front), 0, 1), sum)
		has(t, opened(t, diskOf(t, behind), 0, 1), size-length+sum)
	}
}

// P10.1: a sector of ones behind one that is not full.
func TestASectorBehindAGap(t *testing.T) {
	for _, n := range []int{0, 1, size - 2, size - 1} {
		for _, behind := range [][]byte{ones(1, 1), ones(1, size)} {
			d := diskOf(t, slices.Concat(ones(1, n), behind))
			refuses(t, d, 0, 2, api.ErrTamper)
			has(t, opened(t, d, 0, 1), n)
		}
	}
}

// P10.2: nil, and what Open did not return; a copy leaves the counter that it is of alone.
func TestNoCounter(t *testing.T) {
	d := diskOf(t, ones(1, 3))
	c := opened(t, d, 0, 1)
	value := *c
	for i, x := range []*epoch.Counter{nil, {}, new(epoch.Counter), &value} {
		for range 2 {
			wants(t, x.Next(), api.ErrNil)
			if x.Value() != 0 {
				t.Errorf("counter %d: the value is %d", i, x.Value())
			}
		}
	}
	same(t, d, ones(1, 3), 0)
	takePower(t, d)
	wants(t, value.Next(), api.ErrNil)
	wants(t, d.Restart(), api.OK)
	has(t, c, 3)
	wants(t, c.Next(), api.OK)
	same(t, d, ones(1, 4), 2)
	wants(t, value.Next(), api.ErrNil)
}
