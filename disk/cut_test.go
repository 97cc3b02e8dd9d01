package disk_test

import (
	"bytes"
	"math"
	"math/rand"
	"slices"
	"testing"

	"redwax/api"
	"redwax/disk"
)

// P8.2, P8.3, P8.5: a cut in each sector of each write, by all masks.
func TestCutInAWrite(t *testing.T) {
	const sectors = 5
	for _, mask := range masks() {
		for at := range sectors {
			for n := 1; at+n <= sectors; n++ {
				for whole := range n {
					d := filled(t, sectors)
					wants(t, d.Cut(whole, mask), api.OK)
					wants(t, d.Write(at, sevens(n)), api.ErrOff)
					want := mixedBytes(sectors * size)
					copy(want[at*size:], sevens(whole))
					sector := want[(at+whole)*size : (at+whole+1)*size]
					copy(sector, torn(sector, sevens(1), mask))
					is(t, d, want, whole+1, true)
				}
			}
		}
	}
}

// P8.3: a cut right behind a write does not occur in it, but in the next one.
func TestCutBehindAWrite(t *testing.T) {
	for n := range 4 {
		d := newDisk(t, 4)
		wants(t, d.Cut(n, [16]byte{15: 128}), api.OK)
		wants(t, d.Write(0, sevens(n)), api.OK)
		is(t, d, slices.Concat(sevens(n), make([]byte, (4-n)*size)), n, false)
		wants(t, d.Write(3, sevens(1)), api.ErrOff)
		is(t, d, slices.Concat(sevens(n), make([]byte, (4-n)*size-1), []byte{7}), n+1, true)
	}
}

// P8.3: the sectors of several writes are counted, of the same place, too; nothing else is.
func TestCutAfterSeveralWrites(t *testing.T) {
	d := newDisk(t, 3)
	wants(t, d.Cut(4, [16]byte{0: 2}), api.OK)
	for _, n := range []int{1, 2, 1} {
		wants(t, d.Write(0, mixedBytes(n*size)), api.OK)
		wants(t, d.Write(3, nil), api.OK)
		wants(t, d.Write(3, sevens(1)), api.ErrArg)
		wants(t, d.Write(0, sevens(1)[1:]), api.ErrArg)
		wants(t, d.Put(0, mixedBytes(size)), api.OK)
		if _, errno := d.Read(0, 3); errno != api.OK {
			t.Errorf("Read: error %d", errno)
		}
	}
	is(t, d, slices.Concat(mixedBytes(2*size), make([]byte, size)), 4, false)
	wants(t, d.Write(2, sevens(1)), api.ErrOff)
	is(t, d, slices.Concat(mixedBytes(2*size), []byte{0, 7}, make([]byte, size-2)), 5, true)
}

// P8.3: each bit of the mask stands for one byte.
func TestEachBitOfTheMask(t *testing.T) {
	for i := range size {
		var mask [16]byte
		mask[i/8] = 1 << (i % 8)
		for _, whole := range []int{0, 1} {
			d := newDisk(t, 2)
			wants(t, d.Cut(whole, mask), api.OK)
			wants(t, d.Write(0, sevens(2)), api.ErrOff)
			want := make([]byte, 2*size)
			copy(want, sevens(whole))
			want[whole*size+i] = 7
			is(t, d, want, whole+1, true)
		}
	}
}

// P8.3: the power goes even if the mask lets all bytes through, or none.
func TestWholeMasks(t *testing.T) {
	for _, mask := range [][16]byte{{}, full()} {
		for sectors := 1; sectors <= 2; sectors++ {
			d := filled(t, sectors)
			wants(t, d.Cut(sectors-1, mask), api.OK)
			wants(t, d.Write(0, sevens(sectors)), api.ErrOff)
			want := sevens(sectors)
			if mask != full() {
				copy(want[(sectors-1)*size:], mixedBytes(sectors * size)[(sectors-1)*size:])
			}
			is(t, d, want, sectors, true)
		}
	}
}

// P8.3: arguments of Cut; with the power off, ErrArg comes first. A refused cut leaves the earlier one.
func TestCutArguments(t *testing.T) {
	d, off := newDisk(t, 2), cutOff(t, 2)
	wants(t, d.Cut(1, full()), api.OK)
	for _, whole := range []int{math.MinInt, -size, -2, -1} {
		wants(t, d.Cut(whole, [16]byte{}), api.ErrArg)
		wants(t, off.Cut(whole, [16]byte{}), api.ErrArg)
	}
	for _, whole := range []int{0, 1, math.MaxInt} {
		wants(t, off.Cut(whole, [16]byte{}), api.ErrOff)
	}
	wants(t, d.Write(0, sevens(1)), api.OK)
	wants(t, d.Write(1, sevens(1)), api.ErrOff)
	is(t, d, sevens(2), 2, true)
	wants(t, off.Restart(), api.OK)
	wants(t, off.Write(0, sevens(2)), api.OK)
	is(t, off, sevens(2), 3, false)
}

// P8.3: a cut replaces one that has not occurred, sooner or later, and counts anew.
func TestCutReplacesACut(t *testing.T) {
	for first := range 4 {
		for second := range 4 {
			d := newDisk(t, 6)
			wants(t, d.Cut(first+1, full()), api.OK)
			wants(t, d.Write(0, sevens(1)), api.OK)
			wants(t, d.Cut(second, [16]byte{0: 1}), api.OK)
			wants(t, d.Write(1, sevens(5)), api.ErrOff)
			want := make([]byte, 6*size)
			copy(want, sevens(1+second))
			want[(1+second)*size] = 7
			is(t, d, want, second+2, true)
		}
	}
}

// P8.3: cuts that are far away don't occur.
func TestCutsFarAway(t *testing.T) {
	for _, whole := range []int{100, 1 << 32, math.MaxInt - 1, math.MaxInt} {
		d := newDisk(t, 10)
		wants(t, d.Cut(whole, [16]byte{}), api.OK)
		for range 10 {
			wants(t, d.Write(0, sevens(10)), api.OK)
		}
		is(t, d, sevens(10), 100, false)
	}
}

// P8.3: Restart removes a cut that is to come, and a cut that occurred doesn't come again.
func TestRestart(t *testing.T) {
	d := newDisk(t, 2)
	wants(t, d.Restart(), api.OK)
	is(t, d, make([]byte, 2*size), 0, false)
	wants(t, d.Cut(0, [16]byte{}), api.OK)
	wants(t, d.Restart(), api.OK)
	wants(t, d.Write(0, sevens(2)), api.OK)
	wants(t, d.Cut(1, [16]byte{}), api.OK)
	wants(t, d.Write(0, mixedBytes(2*size)), api.ErrOff)
	want := slices.Concat(mixedBytes(size), sevens(1))
	is(t, d, want, 4, true)
	wants(t, d.Restart(), api.OK)
	is(t, d, want, 4, false)
	b, errno := d.Read(0, 2)
	if wants(t, errno, api.OK); !bytes.Equal(b, want) {
		t.Errorf("after a restart other bytes are read")
	}
	for range 3 {
		wants(t, d.Write(0, mixedBytes(2*size)), api.OK)
	}
	is(t, d, mixedBytes(2*size), 10, false)
}

// P8.3: with the power off nothing is written or read until it is back.
func TestOff(t *testing.T) {
	d := cutOff(t, 3)
	for range 3 {
		wants(t, d.Write(0, sevens(3)), api.ErrOff)
		wants(t, d.Cut(5, full()), api.ErrOff)
		if b, errno := d.Read(0, 1); b != nil || errno != api.ErrOff {
			t.Errorf("Read returns %d bytes, error %d", len(b), errno)
		}
		is(t, d, make([]byte, 3*size), 1, true)
	}
}

// P8.4: a copy has the bytes, the power and the number of writes; both go their own ways.
func TestCopy(t *testing.T) {
	for _, off := range []bool{false, true} {
		d := newDisk(t, 3)
		wants(t, d.Write(1, mixedBytes(size)), api.OK)
		if off {
			wants(t, d.Cut(0, [16]byte{}), api.OK)
			wants(t, d.Write(0, sevens(1)), api.ErrOff)
		}
		kept, writes := d.Bytes(), d.Writes()
		for _, other := range []*disk.Disk{d.Copy(), d.Copy().Copy()} {
			is(t, other, kept, writes, off)
			wants(t, other.Restart(), api.OK)
			wants(t, other.Write(0, sevens(3)), api.OK)
			wants(t, other.Put(0, []byte{9}), api.OK)
			is(t, d, kept, writes, off)
			is(t, other, slices.Concat([]byte{9}, sevens(3)[1:]), writes+3, false)
		}
		c := d.Copy()
		wants(t, d.Restart(), api.OK)
		wants(t, d.Write(0, sevens(3)), api.OK)
		wants(t, d.Put(0, []byte{9}), api.OK)
		is(t, c, kept, writes, off)
	}
}

// P8.4: a copy has the cut, with what is left to write until then and its mask; both then lose it
// apart.
func TestCopyOfACut(t *testing.T) {
	for written := range 3 {
		d := newDisk(t, 4)
		wants(t, d.Cut(2, [16]byte{1: 1}), api.OK)
		wants(t, d.Write(0, sevens(written)), api.OK)
		c, spared := d.Copy(), d.Copy()
		wants(t, spared.Cut(4, [16]byte{}), api.OK)
		want := slices.Concat(sevens(2), make([]byte, 2*size))
		want[2*size+8] = 7
		for _, x := range []*disk.Disk{d, c} {
			wants(t, x.Write(written, sevens(4-written)), api.ErrOff)
			is(t, x, want, 3, true)
		}
		wants(t, spared.Write(0, sevens(4)), api.OK)
		is(t, spared, sevens(4), written+4, false)
	}
}

// known is a second working-out of a disk: it knows the cut by the number of the write in which it
// comes, and tells byte by byte what is written.
type known struct {
	data   []byte
	writes int
	off    bool
	cutAt  int // none below 0
	mask   [16]byte
}

func (k *known) write(at int, b []byte) api.Errno {
	switch {
	case len(b)%size != 0 || at < 0 || at*size+len(b) > len(k.data):
		return api.ErrArg
	case k.off:
		return api.ErrOff
	}
	for i := range b {
		number := k.writes + i/size
		allowed := k.mask[i%size/8]&(1<<(i%size%8)) != 0
		if k.cutAt < 0 || number < k.cutAt || number == k.cutAt && allowed {
			k.data[at*size+i] = b[i]
		}
	}
	after := k.writes + len(b)/size
	if k.cutAt >= 0 && k.cutAt < after {
		k.writes, k.cutAt, k.off = k.cutAt+1, -1, true
		return api.ErrOff
	}
	k.writes = after
	return api.OK
}

func (k *known) lay(whole int, mask [16]byte) api.Errno {
	switch {
	case whole < 0:
		return api.ErrArg
	case k.off:
		return api.ErrOff
	}
	k.cutAt, k.mask = k.writes+whole, mask
	return api.OK
}

func (k *known) put(at int, b []byte) api.Errno {
	if at < 0 || at+len(b) > len(k.data) {
		return api.ErrArg
	}
	copy(k.data[at:], b)
	return api.OK
}

// P8.2 to P8.5: many calls, one upon the other, held against the second working-out.
func TestManyCalls(t *testing.T) {
	for seed := range int64(60) {
		r := rand.New(rand.NewSource(seed))
		sectors := 1 + r.Intn(8)
		d := newDisk(t, sectors)
		k := &known{data: make([]byte, sectors*size), cutAt: -1}
		for range 150 {
			oneCall(t, r, d, k, sectors)
			if r.Intn(10) == 0 {
				d = d.Copy()
			}
			is(t, d, k.data, k.writes, k.off)
		}
		if t.Failed() {
			t.Fatalf("seed %d", seed)
		}
	}
}

// oneCall makes one call of both and holds their answers against each other.
func oneCall(t *testing.T, r *rand.Rand, d *disk.Disk, k *known, sectors int) {
	t.Helper()
	at := r.Intn(sectors+3) - 1
	switch r.Intn(12) {
	case 0, 1:
		var mask [16]byte
		r.Read(mask[:])
		whole := r.Intn(3*sectors) - 1
		wants(t, d.Cut(whole, mask), k.lay(whole, mask))
	case 2, 3:
		wants(t, d.Restart(), api.OK)
		k.off, k.cutAt = false, -1
	case 4:
		b := make([]byte, r.Intn(sectors*size+2))
		r.Read(b)
		from := r.Intn(sectors*size+4) - 2
		wants(t, d.Put(from, b), k.put(from, b))
	case 5:
		n := r.Intn(sectors+3) - 1
		b, errno := d.Read(at, n)
		switch {
		case at < 0 || n < 0 || at+n > sectors:
			wants(t, errno, api.ErrArg)
		case k.off:
			wants(t, errno, api.ErrOff)
		case errno != api.OK || !bytes.Equal(b, k.data[at*size:(at+n)*size]):
			t.Errorf("Read(%d, %d) returns error %d or wrong bytes", at, n, errno)
		}
	default:
		b := make([]byte, r.Intn(sectors+2)*size+r.Intn(8)/7)
		r.Read(b)
		wants(t, d.Write(at, b), k.write(at, b))
	}
}
