package slots_test

import (
	"bytes"
	"slices"
	"testing"

	"redwax/api"
	"redwax/slots"
)

// P9.2: the bytes of the disk after one Append and after another, in a region that had junk behind a
// mark 0 everywhere: the slots, then a sector of zeros, if one is left. Outside of the region, and
// behind the zeros, nothing is written.
func TestAppendWrites(t *testing.T) {
	const from, sectors = 2, 9
	for _, x := range lengths {
		for _, y := range lengths {
			want := slices.Concat(junk(from, 2), junk(sectors, 0), junk(2, 2))
			d := diskOf(t, want)
			l := opened(t, d, from, sectors)
			writes := 0
			var records [][]byte
			for _, n := range []int{x, y} {
				written := append(slotsOf(record(n)), make([]byte, size)...)
				copy(want[(from+l.Used())*size:], written)
				wants(t, l.Append(record(n)), api.OK)
				writes += len(written)/size + 1
				same(t, d, want)
				records = append(records, record(n))
				holds(t, l, sectors, records...)
				holds(t, opened(t, d, from, sectors), sectors, records...)
			}
			if d.Writes() != writes {
				t.Errorf("%d and %d bytes: %d sectors written, not %d", x, y, d.Writes(), writes)
			}
		}
	}
}

// P9.2: a slot that fills the region up to its end: no sector of zeros is written behind it.
func TestAppendUpToTheEnd(t *testing.T) {
	for _, n := range lengths {
		slot := slotsOf(record(7), record(n))
		sectors := len(slot) / size
		d := diskOf(t, slices.Concat(junk(1, 2), junk(sectors, 0), junk(1, 2)))
		l := opened(t, d, 1, sectors)
		wants(t, l.Append(record(7)), api.OK)
		wants(t, l.Append(record(n)), api.OK)
		want := slices.Concat(junk(1, 2), slot, junk(1, 2))
		same(t, d, want)
		if l.Room() != -1 || d.Writes() != sectors+3 {
			t.Errorf("%d bytes: room for %d, %d sectors written", n, l.Room(), d.Writes())
		}
		holds(t, l, sectors, record(7), record(n))
		holds(t, opened(t, d, 1, sectors), sectors, record(7), record(n))
		for _, more := range [][]byte{nil, {1}, record(200)} {
			wants(t, l.Append(more), api.ErrFull)
		}
		same(t, d, want)
	}
}

// P9.2, P9.3: a record as long as Room tells fits, one of a byte more doesn't.
func TestAppendOfTheRoom(t *testing.T) {
	for sectors := 1; sectors <= 6; sectors++ {
		for _, n := range lengths {
			b := region(sectors)
			if slot := slotsOf(record(n)); len(slot) < len(b) {
				copy(b, slot)
			}
			d := diskOf(t, b)
			l := opened(t, d, 0, sectors)
			room, before := l.Room(), l.All()
			for _, more := range []int{1, 2, size, 10 * size} {
				wants(t, l.Append(record(room+more)), api.ErrFull)
			}
			same(t, d, b)
			holds(t, l, sectors, before...)
			wants(t, l.Append(record(room)), api.OK)
			after := append(before, record(room))
			holds(t, l, sectors, after...)
			holds(t, opened(t, d, 0, sectors), sectors, after...)
			wants(t, l.Append(nil), api.ErrFull)
		}
	}
}

// P9.2: the longest record, and those that are longer; ErrLong comes ahead of ErrFull.
func TestAppendOfTheLongest(t *testing.T) {
	for _, sectors := range []int{1, 2048, 2049, 2050, 5000} {
		d := newDisk(t, sectors)
		l := opened(t, d, 0, sectors)
		for _, n := range []int{1<<18 + 1, 1<<18 + 500, 1 << 20} {
			wants(t, l.Append(make([]byte, n)), api.ErrLong)
		}
		same(t, d, region(sectors))
		if sectors < 2049 {
			wants(t, l.Append(record(1<<18)), api.ErrFull)
			same(t, d, region(sectors))
			continue
		}
		wants(t, l.Append(record(1<<18)), api.OK)
		holds(t, l, sectors, record(1<<18))
		same(t, d, region(sectors, record(1<<18)))
		holds(t, opened(t, d, 0, sectors), sectors, record(1<<18))
		wants(t, l.Append(make([]byte, 1<<18+1)), api.ErrLong)
	}
}

// P9.2: with the power off ErrOff comes ahead of ErrLong and ErrFull. If it did not go during an
// Append, the log goes on after a restart.
func TestAppendWithoutPower(t *testing.T) {
	d := newDisk(t, 3)
	l := opened(t, d, 0, 3)
	wants(t, l.Append(record(9)), api.OK)
	kept := d.Bytes()
	takePower(t, d)
	for _, n := range []int{0, 1, 251, 252, 1 << 18, 1<<18 + 1} {
		wants(t, l.Append(make([]byte, n)), api.ErrOff)
	}
	same(t, d, kept)
	holds(t, l, 3, record(9))
	wants(t, d.Restart(), api.OK)
	holds(t, l, 3, record(9))
	wants(t, l.Append(record(10)), api.OK)
	holds(t, opened(t, d, 0, 3), 3, record(9), record(10))
}

// P9.2: a log whose Append lost the power takes nothing any more, even after a restart; nor does it
// write anything. The log that is opened then does.
func TestALostLog(t *testing.T) {
	for whole := range 4 {
		d := newDisk(t, 4)
		l := opened(t, d, 0, 4)
		wants(t, l.Append(record(9)), api.OK)
		wants(t, d.Cut(whole, [16]byte{}), api.OK)
		wants(t, l.Append(record(130)), api.ErrOff)
		for range 2 {
			wants(t, d.Restart(), api.OK)
			kept, writes := d.Bytes(), d.Writes()
			for _, n := range []int{0, 1, 130, 1000, 1<<18 + 1} {
				wants(t, l.Append(make([]byte, n)), api.ErrOff)
			}
			holds(t, l, 4, record(9))
			same(t, d, kept)
			if d.Writes() != writes || d.Off() {
				t.Errorf("%d writes, not %d; off is %v", d.Writes(), writes, d.Off())
			}
		}
		next := opened(t, d, 0, 4)
		wants(t, next.Append(record(1)), api.OK)
		holds(t, next, 4, record(9), record(1))
		wants(t, l.Append(nil), api.ErrOff)
		holds(t, opened(t, d, 0, 4), 4, record(9), record(1))
	}
}

// P9.2: a refused Append leaves a log that goes on.
func TestAppendAfterErrors(t *testing.T) {
	d := newDisk(t, 2)
	l := opened(t, d, 0, 2)
	wants(t, l.Append(record(252)), api.ErrFull)
	wants(t, l.Append(make([]byte, 1<<18+1)), api.ErrLong)
	wants(t, d.Cut(5, [16]byte{}), api.OK)
	wants(t, l.Append(record(123)), api.OK)
	wants(t, l.Append(record(124)), api.ErrFull)
	wants(t, l.Append(record(2)), api.OK)
	same(t, d, region(2, record(123), record(2)))
	wants(t, l.Append(nil), api.ErrFull)
	if d.Off() || d.Writes() != 5 {
		t.Errorf("off is %v, %d writes", d.Off(), d.Writes())
	}
}

// P9.5: what a disk has in the sectors of earlier records is not written by a later Append.
func TestSectorsAreNotWrittenAgain(t *testing.T) {
	for _, n := range lengths {
		d := newDisk(t, 20)
		l := opened(t, d, 1, 19)
		want := region(20)
		for i := range 4 {
			wants(t, l.Append(record(n)), api.OK)
			end := (1 + l.Used()) * size
			other := bytes.Repeat([]byte{byte(200 + i)}, end-size)
			wants(t, d.Put(size, other), api.OK)
			copy(want[size:], other)
			same(t, d, want)
		}
	}
}

// P9.5: a log that is opened again, and again, has the same records, and goes on.
func TestOpenedAgain(t *testing.T) {
	const sectors = 80
	d := newDisk(t, sectors+2)
	var want [][]byte
	for _, n := range lengths {
		for range 2 {
			l := opened(t, d, 1, sectors)
			holds(t, l, sectors, want...)
			wants(t, l.Append(record(n)), api.OK)
			want = append(want, record(n))
			holds(t, l, sectors, want...)
		}
	}
	holds(t, opened(t, d.Copy(), 1, sectors), sectors, want...)
	same(t, d, slices.Concat(region(1), region(sectors, want...), region(1)))
}

// P9.2: logs of two regions of one disk are apart.
func TestTwoRegions(t *testing.T) {
	d := newDisk(t, 12)
	logs := []*slots.Log{opened(t, d, 0, 5), opened(t, d, 5, 7)}
	for i := range 4 {
		wants(t, logs[i%2].Append(record(100+30*i)), api.OK)
	}
	holds(t, logs[0], 5, record(100), record(160))
	holds(t, logs[1], 7, record(130), record(190))
	same(t, d, append(region(5, record(100), record(160)), region(7, record(130), record(190))...))
	wants(t, d.Cut(1, [16]byte{}), api.OK)
	wants(t, logs[0].Append(record(3)), api.ErrOff)
	wants(t, logs[1].Append(record(3)), api.ErrOff)
	wants(t, d.Restart(), api.OK)
	wants(t, logs[0].Append(record(3)), api.ErrOff)
	wants(t, logs[1].Append(record(3)), api.OK)
	holds(t, opened(t, d, 0, 5), 5, record(100), record(160))
	holds(t, opened(t, d, 5, 7), 7, record(130), record(190), record(3))
}
