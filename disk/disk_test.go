package disk_test

import (
	"bytes"
	"math"
	"slices"
	"testing"

	"redwax/api"
	"redwax/disk"
)

const size = api.SectorSize

// newDisk is a new disk of so many sectors.
func newDisk(t *testing.T, sectors int) *disk.Disk {
	t.Helper()
	d, errno := disk.New(sectors)
	if errno != api.OK {
		t.Fatalf("New(%d): error %d", sectors, errno)
	}
	return d
}

// filled is a disk of so many sectors whose bytes are mixedBytes; nothing has been written.
func filled(t *testing.T, sectors int) *disk.Disk {
	t.Helper()
	d := newDisk(t, sectors)
	wants(t, d.Put(0, mixedBytes(sectors*size)), api.OK)
	return d
}

// wants checks an error.
func wants(t *testing.T, got, want api.Errno) {
	t.Helper()
	if got != want {
		t.Errorf("error %d, not %d", got, want)
	}
}

// is checks all that a disk tells of itself.
func is(t *testing.T, d *disk.Disk, want []byte, writes int, off bool) {
	t.Helper()
	if got := d.Bytes(); !bytes.Equal(got, want) {
		t.Errorf("the bytes of %d sectors are not those that %d sectors should have", len(got)/size, len(want)/size)
	}
	if d.Sectors()*size != len(want) || d.Writes() != writes || d.Off() != off {
		t.Errorf("%d sectors, %d writes, off is %v; not %d, %d, %v", d.Sectors(), d.Writes(), d.Off(), len(want)/size, writes, off)
	}
}

// mixedBytes returns n bytes that differ along the way, and from sector to sector.
func mixedBytes(n int) []byte {
	b := make([]byte, n)
	for i := range b {
		b[i] = byte(i*7 + i/size*29 + 1)
	}
	return b
}

// sevens are so many sectors of the byte 7.
func sevens(sectors int) []byte {
	return bytes.Repeat([]byte{7}, sectors*size)
}

// full is the mask that lets all bytes through.
func full() [16]byte {
	return [16]byte(bytes.Repeat([]byte{255}, 16))
}

// masks are none, all, single bits, and mixed ones.
func masks() [][16]byte {
	l := [][16]byte{{}, full(), {0: 1}, {0: 2}, {0: 128}, {1: 1}, {15: 1}, {15: 128}, {7: 0xf0}}
	for i := range 4 {
		l = append(l, [16]byte(mixedBytes(300)[i*40:]))
	}
	return l
}

// torn is what a sector has of the old bytes and of the new ones by a mask.
func torn(old, new []byte, mask [16]byte) []byte {
	b := slices.Clone(old)
	for place, group := range mask {
		for bit := range 8 {
			if group&(1<<bit) != 0 {
				b[place*8+bit] = new[place*8+bit]
			}
		}
	}
	return b
}

// strange are numbers far outside, sums of which wrap round.
func strange() []int {
	return []int{math.MinInt, math.MinInt + 1, math.MinInt32, -size, -1, 1 << 31, math.MaxInt / size, math.MaxInt/2 + 1, math.MaxInt - 1, math.MaxInt}
}

// The chapter's examples.
func TestExamples(t *testing.T) {
	if d, errno := disk.New(0); d != nil || errno != api.ErrArg {
		t.Errorf("New(0) returns %v, error %d", d, errno)
	}
	if b, errno := newDisk(t, 2).Read(1, 2); b != nil || errno != api.ErrArg {
		t.Errorf("Read(1, 2) returns %d bytes, error %d", len(b), errno)
	}
	d := newDisk(t, 2)
	wants(t, d.Cut(1, [16]byte{0: 1}), api.OK)
	wants(t, d.Write(0, sevens(2)), api.ErrOff)
	is(t, d, slices.Concat(bytes.Repeat([]byte{7}, 129), make([]byte, 127)), 2, true)
}

// P8.1: numbers of sectors, those at the bounds among them; a new disk.
func TestNew(t *testing.T) {
	for _, n := range []int{1, 2, 3, 40, 512, 1<<14 - 1, 1 << 14} {
		is(t, newDisk(t, n), make([]byte, n*128), 0, false)
	}
	for _, n := range append(strange(), 0, 1<<14+1, 1<<20) {
		if d, errno := disk.New(n); d != nil || errno != api.ErrArg {
			t.Errorf("New(%d) returns %v, error %d", n, d, errno)
		}
	}
}

// P8.1: disks of two calls are apart.
func TestNewDisksAreApart(t *testing.T) {
	first, second := newDisk(t, 3), newDisk(t, 3)
	wants(t, first.Write(1, sevens(1)), api.OK)
	wants(t, first.Cut(0, [16]byte{}), api.OK)
	wants(t, first.Write(0, sevens(1)), api.ErrOff)
	is(t, second, make([]byte, 3*size), 0, false)
}

// P8.1: nil, and what neither New nor Copy returned; ErrNil comes ahead of all other errors.
func TestNoDisk(t *testing.T) {
	made := filled(t, 3)
	value, offValue := *made, *cutOff(t, 3)
	for i, d := range []*disk.Disk{nil, {}, new(disk.Disk), &value, &offValue} {
		for _, at := range append(strange(), 0, 1, 2, 3) {
			for _, n := range []int{-1, 0, 1, size, 2 * size} {
				if b, errno := d.Read(at, n); b != nil || errno != api.ErrNil {
					t.Errorf("disk %d: Read returns %d bytes, error %d", i, len(b), errno)
				}
				wants(t, d.Write(at, sevens(2)[:max(n, 0)]), api.ErrNil)
				wants(t, d.Put(at, sevens(2)[:max(n, 0)]), api.ErrNil)
				wants(t, d.Cut(at, full()), api.ErrNil)
			}
		}
		wants(t, d.Restart(), api.ErrNil)
		if d.Off() || d.Sectors() != 0 || d.Writes() != 0 || d.Bytes() != nil || d.Copy() != nil {
			t.Errorf("disk %d: off is %v, %d sectors, %d writes, %d bytes, copy %v", i, d.Off(), d.Sectors(), d.Writes(), len(d.Bytes()), d.Copy())
		}
	}
	is(t, made, mixedBytes(3*size), 0, false)
	wants(t, made.Write(0, sevens(3)), api.OK)
}

// cutOff is a disk of so many sectors, all 0, whose power a cut took away.
func cutOff(t *testing.T, sectors int) *disk.Disk {
	t.Helper()
	d := newDisk(t, sectors)
	wants(t, d.Cut(0, [16]byte{}), api.OK)
	wants(t, d.Write(0, sevens(1)), api.ErrOff)
	return d
}

// P8.2: all reads of small disks, and those around them; with the power off, ErrArg comes first.
func TestRead(t *testing.T) {
	for sectors := 1; sectors <= 4; sectors++ {
		on, off := filled(t, sectors), cutOff(t, sectors)
		for at := -3; at <= sectors+3; at++ {
			for n := -3; n <= sectors+3; n++ {
				want, wantOff := api.OK, api.ErrOff
				if at < 0 || n < 0 || at+n > sectors {
					want, wantOff = api.ErrArg, api.ErrArg
				}
				b, errno := on.Read(at, n)
				wants(t, errno, want)
				if errno == api.OK && !bytes.Equal(b, mixedBytes(sectors * size)[at*size:(at+n)*size]) || errno != api.OK && b != nil {
					t.Errorf("%d sectors: Read(%d, %d) returns %d wrong bytes", sectors, at, n, len(b))
				}
				b, errno = off.Read(at, n)
				wants(t, errno, wantOff)
				if b != nil {
					t.Errorf("Read(%d, %d) with the power off returns %d bytes", at, n, len(b))
				}
			}
		}
		is(t, on, mixedBytes(sectors*size), 0, false)
	}
}

// P8.2: reads far outside of the disk.
func TestReadFarOutside(t *testing.T) {
	d := filled(t, 2)
	for _, x := range strange() {
		for _, y := range append(strange(), 0, 1, 2, 3) {
			for _, c := range [][2]int{{x, y}, {y, x}} {
				if b, errno := d.Read(c[0], c[1]); b != nil || errno != api.ErrArg {
					t.Errorf("Read(%d, %d) returns %d bytes, error %d", c[0], c[1], len(b), errno)
				}
			}
		}
	}
}

// P8.2, P8.5: all writes of whole sectors to small disks, and those around them; with the power
// off, ErrArg comes first.
func TestWrite(t *testing.T) {
	for sectors := 1; sectors <= 4; sectors++ {
		for at := -3; at <= sectors+3; at++ {
			for n := range sectors + 3 {
				on, off := filled(t, sectors), cutOff(t, sectors)
				if at < 0 || at+n > sectors {
					wants(t, on.Write(at, sevens(n)), api.ErrArg)
					wants(t, off.Write(at, sevens(n)), api.ErrArg)
					is(t, on, mixedBytes(sectors*size), 0, false)
				} else {
					wants(t, on.Write(at, sevens(n)), api.OK)
					wants(t, off.Write(at, sevens(n)), api.ErrOff)
					want := mixedBytes(sectors * size)
					copy(want[at*size:], sevens(n))
					is(t, on, want, n, false)
				}
				is(t, off, make([]byte, sectors*size), 1, true)
			}
		}
	}
}

// P8.2: lengths that are not whole sectors, at all places; nothing is written, no cut is used up.
func TestWriteOfNoWholeSectors(t *testing.T) {
	d, off := filled(t, 3), cutOff(t, 3)
	wants(t, d.Cut(0, full()), api.OK)
	for n := range 5 * size {
		if n%size == 0 {
			continue
		}
		for at := -1; at <= 4; at++ {
			wants(t, d.Write(at, sevens(5)[:n]), api.ErrArg)
			wants(t, off.Write(at, sevens(5)[:n]), api.ErrArg)
		}
	}
	is(t, d, mixedBytes(3*size), 0, false)
	is(t, off, make([]byte, 3*size), 1, true)
}

// P8.2: writes far outside of the disk.
func TestWriteFarOutside(t *testing.T) {
	d := filled(t, 2)
	for _, at := range strange() {
		for n := range 4 {
			wants(t, d.Write(at, sevens(n)), api.ErrArg)
		}
	}
	is(t, d, mixedBytes(2*size), 0, false)
}

// P8.2: no bytes: at each place up to the end, with a cut that stays, and with the power off.
func TestWriteOfNothing(t *testing.T) {
	d := filled(t, 2)
	wants(t, d.Cut(0, full()), api.OK)
	for at := range 3 {
		wants(t, d.Write(at, nil), api.OK)
		wants(t, d.Write(at, []byte{}), api.OK)
	}
	wants(t, d.Write(3, nil), api.ErrArg)
	wants(t, d.Write(-1, nil), api.ErrArg)
	is(t, d, mixedBytes(2*size), 0, false)
	wants(t, d.Write(0, sevens(1)), api.ErrOff)
	wants(t, d.Write(0, nil), api.ErrOff)
	wants(t, d.Write(3, nil), api.ErrArg)
	if b, errno := d.Read(0, 0); b != nil || errno != api.ErrOff {
		t.Errorf("Read of nothing with the power off returns %v, error %d", b, errno)
	}
}

// P8.2: a whole disk of the greatest size.
func TestTheGreatestDisk(t *testing.T) {
	d := newDisk(t, api.MaxSectors)
	all := mixedBytes(api.MaxSectors * size)
	wants(t, d.Write(0, all), api.OK)
	is(t, d, all, api.MaxSectors, false)
	b, errno := d.Read(api.MaxSectors-1, 1)
	if wants(t, errno, api.OK); !bytes.Equal(b, all[len(all)-size:]) {
		t.Errorf("the last sector is not what was written")
	}
	wants(t, d.Write(1, all), api.ErrArg)
	wants(t, d.Write(api.MaxSectors, sevens(1)), api.ErrArg)
	is(t, d, all, api.MaxSectors, false)
}

// P8.4: what is put anywhere, and around the ends; it doesn't count.
func TestPut(t *testing.T) {
	const all = 2 * size
	for _, at := range append(strange(), -2, 0, 1, 5, size-1, size, size+1, all-1, all, all+1) {
		for _, n := range []int{0, 1, 2, 5, size - 1, size, size + 1, all - 1, all, all + 1, 3 * size} {
			d := filled(t, 2)
			want := mixedBytes(all)
			if at >= 0 && at <= all && at+n <= all {
				wants(t, d.Put(at, sevens(3)[:n]), api.OK)
				copy(want[at:], sevens(3)[:n])
			} else {
				wants(t, d.Put(at, sevens(3)[:n]), api.ErrArg)
			}
			is(t, d, want, 0, false)
		}
	}
}

// P8.4: neither the power nor a cut has an effect on Put, nor it on them.
func TestPutAndThePower(t *testing.T) {
	d := newDisk(t, 2)
	wants(t, d.Cut(1, [16]byte{}), api.OK)
	wants(t, d.Put(0, sevens(2)), api.OK)
	wants(t, d.Put(0, mixedBytes(2*size)), api.OK)
	is(t, d, mixedBytes(2*size), 0, false)
	wants(t, d.Write(0, mixedBytes(2*size)), api.ErrOff)
	wants(t, d.Put(3, sevens(1)), api.OK)
	wants(t, d.Put(2*size, []byte{1}), api.ErrArg)
	wants(t, d.Put(-1, []byte{1}), api.ErrArg)
	is(t, d, slices.Concat(mixedBytes(3), sevens(1), mixedBytes(2 * size)[3+size:]), 2, true)
}

// Arguments are neither changed nor kept.
func TestArgumentsAreLeftAlone(t *testing.T) {
	whole := mixedBytes(5 * size)
	for _, write := range []func(d *disk.Disk, b []byte) api.Errno{
		func(d *disk.Disk, b []byte) api.Errno { return d.Write(1, b) },
		func(d *disk.Disk, b []byte) api.Errno { return d.Put(size, b) },
	} {
		d := newDisk(t, 3)
		given := slices.Clone(whole)
		wants(t, write(d, given[:2*size]), api.OK)
		if !bytes.Equal(given, whole) {
			t.Errorf("what is written is changed, or what stands behind it")
		}
		clear(given)
		is(t, d, slices.Concat(make([]byte, size), whole[:2*size]), d.Writes(), false)
	}
}

// What is returned is new memory.
func TestAnswersAreNew(t *testing.T) {
	d := filled(t, 3)
	for _, read := range []func() []byte{
		d.Bytes,
		func() []byte { b, _ := d.Read(0, 3); return b },
		func() []byte { b, _ := d.Read(1, 1); return b },
		func() []byte { b, _ := d.Read(2, 0); return b },
	} {
		first, second := read(), read()
		kept := slices.Clone(second)
		clear(first[:cap(first)])
		if !bytes.Equal(second, kept) {
			t.Errorf("two answers share memory")
		}
		is(t, d, mixedBytes(3*size), 0, false)
		wants(t, d.Write(0, mixedBytes(3 * size)[:size]), api.OK)
		wants(t, d.Put(0, sevens(3)), api.OK)
		if !bytes.Equal(second, kept) {
			t.Errorf("an answer hangs on what is written later")
		}
		d = filled(t, 3)
	}
}
