package epoch_test

import (
	"bytes"
	"math/rand"
	"slices"
	"testing"

	"redwax/api"
	"redwax/disk"
	"redwax/epoch"
)

// P10.2: from 0 up to the bound, step by step: one sector is written each time, one byte of it
// changes, and the counter that is opened then has the same value. At the bound nothing is written.
func TestNextUpToTheBound(t *testing.T) {
	for _, sectors := range []int{1, 2, 3, 8} {
		d := diskOf(t, slices.Concat(junk(2), ones(sectors, 0), junk(1)))
		c := opened(t, d, 2, sectors)
		bound := sectors * size
		for n := range bound {
			has(t, c, n)
			wants(t, c.Next(), api.OK)
			has(t, c, n+1)
			same(t, d, slices.Concat(junk(2), ones(sectors, n+1), junk(1)), n+1)
			has(t, opened(t, d, 2, sectors), n+1)
		}
		wants(t, d.Cut(0, [16]byte{}), api.OK)
		for range 3 {
			wants(t, c.Next(), api.ErrCount)
			has(t, c, bound)
			wants(t, opened(t, d, 2, sectors).Next(), api.ErrCount)
		}
		same(t, d, slices.Concat(junk(2), ones(sectors, bound), junk(1)), bound)
	}
}

// P10.2, P10.4: a counter that is opened anew for each step.
func TestOpenedAgain(t *testing.T) {
	d := newDisk(t, 3)
	for n := range 2 * size {
		c := opened(t, d, 1, 2)
		has(t, c, n)
		wants(t, c.Next(), api.OK)
	}
	wants(t, opened(t, d, 1, 2).Next(), api.ErrCount)
	same(t, d, slices.Concat(ones(1, 0), ones(2, 2*size)), 2*size)
}

// P10.2: which sector is written, with which bytes: what is in the other sectors of the counter
// stays, and in its own all other bytes stay, too.
func TestNextWritesOneByte(t *testing.T) {
	const sectors = 3
	for _, n := range []int{0, 1, 5, size - 1, size, size + 1, 2*size - 1, 2 * size, 3*size - 1} {
		d := diskOf(t, slices.Concat(junk(1), ones(sectors, n), junk(1)))
		c := opened(t, d, 1, sectors)
		want := junk(sectors + 2)
		wants(t, d.Put(0, want), api.OK)
		wants(t, c.Next(), api.OK)
		want[size+n] = 1
		same(t, d, want, 1)
		has(t, c, n+1)
	}
}

// P10.2: with the power off: ErrOff, and the value stays; at the bound ErrCount comes first. After a
// restart the counter goes on.
func TestNextWithoutPower(t *testing.T) {
	for _, n := range []int{0, 1, size - 1, size, 2*size - 1, 2 * size} {
		d := diskOf(t, ones(2, n))
		c := opened(t, d, 0, 2)
		takePower(t, d)
		want, after := api.ErrOff, api.OK
		if n == 2*size {
			want, after = api.ErrCount, api.ErrCount
		}
		for range 3 {
			wants(t, c.Next(), want)
			has(t, c, n)
		}
		same(t, d, ones(2, n), 1)
		wants(t, d.Restart(), api.OK)
		has(t, c, n)
		wants(t, c.Next(), after)
		has(t, c, min(n+1, 2*size))
		has(t, opened(t, d, 0, 2), c.Value())
	}
}

// P10.2: what was the disk is none any more: Write's error, and the value stays.
func TestNextWithoutADisk(t *testing.T) {
	d := diskOf(t, ones(1, 3))
	c := opened(t, d, 0, 1)
	*d = disk.Disk{}
	for range 2 {
		wants(t, c.Next(), api.ErrNil)
		has(t, c, 3)
	}
}

// masks are some of a cut, for a byte: of them some let it through, and some don't.
func masks(i int) [][16]byte {
	var alone, others [16]byte
	alone[i/8] = 1 << (i % 8)
	for k := range others {
		others[k] = 255 - alone[k]
	}
	return [][16]byte{
		{},
		[16]byte(bytes.Repeat([]byte{255}, 16)),
		alone,
		others,
		[16]byte(bytes.Repeat([]byte{0x55}, 16)),
		[16]byte(bytes.Repeat([]byte{0xaa}, 16)),
	}
}

// lets reports whether a mask lets the byte at i through.
func lets(mask [16]byte, i int) bool {
	return mask[i/8]&(1<<(i%8)) != 0
}

// P10.2, P10.3: a cut in each step, by masks with and without its byte: ErrOff, the value stays, and
// what is opened has that value or the next one. Both that counter and the old one then go on.
func TestCutInEachStep(t *testing.T) {
	const sectors = 2
	for n := range sectors * size {
		for _, mask := range masks(n % size) {
			d := diskOf(t, slices.Concat(junk(1), ones(sectors, n), junk(1)))
			c := opened(t, d, 1, sectors)
			wants(t, d.Cut(0, mask), api.OK)
			wants(t, c.Next(), api.ErrOff)
			has(t, c, n)
			found := n
			if lets(mask, n%size) {
				found++
			}
			same(t, d, slices.Concat(junk(1), ones(sectors, found), junk(1)), 1)
			wants(t, d.Restart(), api.OK)
			has(t, opened(t, d, 1, sectors), found)

			wants(t, c.Next(), api.OK)
			has(t, c, n+1)
			has(t, opened(t, d, 1, sectors), n+1)
			same(t, d, slices.Concat(junk(1), ones(sectors, n+1), junk(1)), 2)
		}
	}
}

// P10.3: the power goes in one step after the other; whatever is opened is never less.
func TestCutsInARow(t *testing.T) {
	for kind := range len(masks(0)) {
		d := newDisk(t, 2)
		value := 0
		for range 3 * size {
			c := opened(t, d, 0, 2)
			has(t, c, value)
			if value == 2*size {
				wants(t, c.Next(), api.ErrCount)
				break
			}
			mask := masks(value % size)[kind]
			wants(t, d.Cut(0, mask), api.OK)
			wants(t, c.Next(), api.ErrOff)
			wants(t, d.Restart(), api.OK)
			if lets(mask, value%size) {
				value++
			}
		}
	}
}

// P10.2: a cut that is some steps away.
func TestCutSomeStepsAway(t *testing.T) {
	for _, n := range []int{0, size - 3, size - 2} {
		for whole := range 6 {
			d := diskOf(t, ones(2, n))
			c := opened(t, d, 0, 2)
			wants(t, d.Cut(whole, [16]byte{}), api.OK)
			for range whole {
				wants(t, c.Next(), api.OK)
			}
			wants(t, c.Next(), api.ErrOff)
			has(t, c, n+whole)
			wants(t, d.Restart(), api.OK)
			has(t, opened(t, d, 0, 2), n+whole)
		}
	}
}

// P10.2: counters of two regions of one disk are apart.
func TestTwoRegions(t *testing.T) {
	d := newDisk(t, 4)
	first, second := opened(t, d, 0, 1), opened(t, d, 1, 3)
	for range size {
		wants(t, first.Next(), api.OK)
		wants(t, second.Next(), api.OK)
		wants(t, second.Next(), api.OK)
	}
	wants(t, first.Next(), api.ErrCount)
	wants(t, second.Next(), api.OK)
	has(t, first, size)
	has(t, second, 2*size+1)
	same(t, d, slices.Concat(ones(1, size), ones(3, 2*size+1)), 3*size+1)
}

// P10.2, P10.4: two counters of the same sectors: the one that others have left behind sets its own
// bytes, and takes nothing back.
func TestACounterLeftBehind(t *testing.T) {
	d := newDisk(t, 2)
	slow, fast := opened(t, d, 0, 2), opened(t, d, 0, 2)
	for range size + 5 {
		wants(t, fast.Next(), api.OK)
	}
	for n := range size + 5 {
		has(t, slow, n)
		wants(t, slow.Next(), api.OK)
		has(t, opened(t, d, 0, 2), size+5)
	}
	wants(t, slow.Next(), api.OK)
	has(t, slow, size+6)
	has(t, fast, size+5)
	has(t, opened(t, d, 0, 2), size+6)
}

// P10.1 to P10.4: many calls, with cuts here and there, held against a second working-out of the
// bytes; the value never decreases.
func TestManyCalls(t *testing.T) {
	for seed := range int64(80) {
		r := rand.New(rand.NewSource(seed))
		from, sectors := r.Intn(3), 1+r.Intn(3)
		start := r.Intn(sectors*size + 1)
		d := diskOf(t, slices.Concat(junk(from), ones(sectors, start), junk(1)))
		c, told, stored := opened(t, d, from, sectors), start, start
		for range 150 {
			c, told, stored = oneCall(t, r, d, c, from, sectors, told, stored)
			has(t, c, told)
			same(t, d, slices.Concat(junk(from), ones(sectors, stored), junk(1)), d.Writes())
		}
		if t.Failed() {
			t.Fatalf("seed %d", seed)
		}
	}
}

// oneCall makes a call, and if the power goes, a restart. It returns the counter that holds then, its
// value, and that on the disk.
func oneCall(t *testing.T, r *rand.Rand, d *disk.Disk, c *epoch.Counter, from, sectors, told, stored int) (*epoch.Counter, int, int) {
	t.Helper()
	var mask [16]byte
	r.Read(mask[:])
	switch r.Intn(8) {
	case 0:
		return opened(t, d, from, sectors), stored, stored
	case 1, 2:
		if told == sectors*size {
			return c, told, stored
		}
		wants(t, d.Cut(0, mask), api.OK)
		wants(t, c.Next(), api.ErrOff)
		wants(t, c.Next(), api.ErrOff)
		wants(t, d.Restart(), api.OK)
		if lets(mask, told%size) {
			stored = max(stored, told+1)
		}
		return c, told, stored
	}
	if told == sectors*size {
		wants(t, c.Next(), api.ErrCount)
		return c, told, stored
	}
	wants(t, c.Next(), api.OK)
	return c, told + 1, max(stored, told+1)
}
