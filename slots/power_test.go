package slots_test

import (
	"bytes"
	"math/rand"
	"slices"
	"testing"

	"redwax/api"
	"redwax/disk"
	"redwax/slots"
)

// masks are some of a cut: of them some let the mark through, and some don't.
func masks() [][16]byte {
	return [][16]byte{
		{},
		[16]byte(bytes.Repeat([]byte{255}, 16)),
		{0: 1},
		[16]byte(append([]byte{254}, bytes.Repeat([]byte{255}, 15)...)),
		{0: 0x0e},
		{0: 0x1f},
		[16]byte(bytes.Repeat([]byte{0x55}, 16)),
		[16]byte(bytes.Repeat([]byte{0xaa}, 16)),
		[16]byte(append(make([]byte, 8), bytes.Repeat([]byte{255}, 8)...)),
	}
}

// torn is a sector with those bytes of b that the mask lets through.
func torn(sector, b []byte, mask [16]byte) []byte {
	c := slices.Clone(sector)
	for i := range c {
		if mask[i/8]&(1<<(i%8)) != 0 {
			c[i] = b[i]
		}
	}
	return c
}

// interrupted works out anew what is on the disk after an Append at a sector of it, with a cut after
// so many whole sectors; left is how many sectors the region has from there on. It tells whether the
// record is there.
func interrupted(was []byte, at, left int, text []byte, whole int, mask [16]byte) ([]byte, bool) {
	b := slices.Clone(was)
	slot := slotsOf(text)
	slot[0] = 0
	if len(slot)/size < left {
		slot = append(slot, make([]byte, size)...)
	}
	n := len(slot) / size
	for i := range min(whole, n) {
		copy(b[(at+i)*size:], slot[i*size:(i+1)*size])
	}
	where, sector := at, slotsOf(text)[:size]
	if whole < n {
		where, sector = at+whole, slot[whole*size:(whole+1)*size]
	}
	copy(b[where*size:], torn(b[where*size:(where+1)*size], sector, mask))
	return b, b[at*size] == 1
}

// writesOf tells how many sectors an Append of text writes, if the region has so many left.
func writesOf(text []byte, left int) int {
	return min(len(slotsOf(text))/size+1, left) + 1
}

// cutAppend appends text with a cut, checks what is on the disk then, and restarts it. It returns
// the records that are there.
func cutAppend(t *testing.T, d *disk.Disk, from, sectors int, before [][]byte, text []byte, whole int, mask [16]byte) [][]byte {
	t.Helper()
	l := opened(t, d, from, sectors)
	at := from + l.Used()
	want, there := interrupted(d.Bytes(), at, sectors-l.Used(), text, whole, mask)
	writes := d.Writes()
	wants(t, d.Cut(whole, mask), api.OK)
	wants(t, l.Append(text), api.ErrOff)
	same(t, d, want)
	if d.Writes() != writes+whole+1 || !d.Off() {
		t.Errorf("%d sectors written, not %d; off is %v", d.Writes()-writes, whole+1, d.Off())
	}
	holds(t, l, sectors, before...)
	wants(t, d.Restart(), api.OK)
	after := before
	if there {
		after = append(slices.Clone(before), text)
	}
	holds(t, opened(t, d, from, sectors), sectors, after...)
	return after
}

// P9.2, P9.4: a cut in each sector that an Append writes, by all masks, in regions with and without
// a sector left behind the slot, and with junk where the slot comes.
func TestCutInAnAppend(t *testing.T) {
	before := [][]byte{record(130)}
	for _, n := range []int{0, 1, 123, 124, 251, 252, 300} {
		text := record(n)
		for _, more := range []int{0, 1, 2} {
			left := len(slotsOf(text))/size + more
			for whole := range writesOf(text, left) {
				for _, mask := range masks() {
					d := diskOf(t, slices.Concat(junk(1, 2), slotsOf(before...), junk(left, 0), junk(1, 2)))
					after := cutAppend(t, d, 1, 2+left, before, text, whole, mask)
					if len(after) == 2 && whole+1 != writesOf(text, left) {
						t.Errorf("%d bytes, %d left: the record is there after %d sectors", n, left, whole)
					}
					same(t, diskOf(t, d.Bytes()[:3*size]), append(junk(1, 2), slotsOf(before...)...))
				}
			}
		}
	}
}

// P9.2: a cut behind the last sector does not occur in the Append, but in the next one.
func TestCutBehindAnAppend(t *testing.T) {
	for _, n := range lengths {
		d := newDisk(t, 8)
		l := opened(t, d, 0, 8)
		wants(t, d.Cut(writesOf(record(n), 8), [16]byte{}), api.OK)
		wants(t, l.Append(record(n)), api.OK)
		holds(t, l, 8, record(n))
		wants(t, l.Append(record(1)), api.ErrOff)
		wants(t, d.Restart(), api.OK)
		holds(t, opened(t, d, 0, 8), 8, record(n))
	}
}

// P9.4: the power goes in two Appends, one after the other, anywhere; the third one is done. The
// records look like slots, sector by sector.
func TestTwoCuts(t *testing.T) {
	const sectors = 6
	few := [][16]byte{{}, {0: 0xfe}, {0: 0x1f}, [16]byte(bytes.Repeat([]byte{255}, 16))}
	for _, x := range []int{3, 200, 300} {
		for _, y := range []int{0, 124, 260} {
			for whole := range writesOf(record(x), sectors) {
				for _, mask := range few {
					d := newDisk(t, sectors)
					once := cutAppend(t, d, 0, sectors, nil, record(x), whole, mask)
					left := sectors - len(slotsOf(once...))/size
					for again := range writesOf(record(y), left) {
						for _, mask := range few {
							c := d.Copy()
							twice := cutAppend(t, c, 0, sectors, once, record(y), again, mask)
							l := opened(t, c, 0, sectors)
							if l.Room() < 5 {
								continue
							}
							wants(t, l.Append(record(5)), api.OK)
							holds(t, opened(t, c, 0, sectors), sectors, append(slices.Clone(twice), record(5))...)
						}
					}
				}
			}
		}
	}
}

// P9.2 to P9.5: many calls, with cuts here and there; what was acknowledged stays, and of what was in
// progress there is all or nothing.
func TestManyCalls(t *testing.T) {
	for seed := range int64(60) {
		r := rand.New(rand.NewSource(seed))
		from, sectors := r.Intn(3), 1+r.Intn(40)
		d := diskOf(t, slices.Concat(junk(from, 2), junk(sectors, 0), junk(2, 2)))
		l := opened(t, d, from, sectors)
		var acked [][]byte
		for range 80 {
			l, acked = oneCall(t, r, d, l, from, sectors, acked)
			holds(t, l, sectors, acked...)
			b := d.Bytes()
			kept := slotsOf(acked...)
			if !bytes.Equal(b[:from*size], junk(from, 2)) || !bytes.Equal(b[(from+sectors)*size:], junk(2, 2)) || !bytes.Equal(b[from*size:][:len(kept)], kept) {
				t.Fatalf("seed %d: the disk has changed where it must not", seed)
			}
		}
		if t.Failed() {
			t.Fatalf("seed %d", seed)
		}
	}
}

// oneCall makes a call, and if the power goes, a restart. It returns the log that holds then, and its
// records.
func oneCall(t *testing.T, r *rand.Rand, d *disk.Disk, l *slots.Log, from, sectors int, acked [][]byte) (*slots.Log, [][]byte) {
	t.Helper()
	switch r.Intn(6) {
	case 0:
		return opened(t, d, from, sectors), acked
	case 1:
		var mask [16]byte
		r.Read(mask[:])
		wants(t, d.Cut(r.Intn(8), mask), api.OK)
		return l, acked
	}
	text := record(r.Intn(1 + r.Intn(500)))
	r.Read(text[:r.Intn(len(text)+1)])
	fits := len(slotsOf(text))/size <= sectors-l.Used()
	errno := l.Append(text)
	switch {
	case !fits:
		wants(t, errno, api.ErrFull)
	case errno == api.OK:
		return l, append(slices.Clone(acked), text)
	default:
		wants(t, errno, api.ErrOff)
		holds(t, l, sectors, acked...)
		wants(t, d.Restart(), api.OK)
		next := opened(t, d, from, sectors)
		if len(next.All()) > len(acked) {
			acked = append(slices.Clone(acked), text)
		}
		return next, acked
	}
	return l, acked
}
