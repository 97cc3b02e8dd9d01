package segment_test

import (
	"bytes"
	"math/rand"
	"slices"
	"testing"

	"redwax/api"
	"redwax/disk"
	"redwax/segment"
)

// P12.1, P12.4: a cut in Open, by all masks: ErrOff; the counter is then what it was or one more, and
// the records are the same.
func TestCutInOpen(t *testing.T) {
	texts := [][]byte{rising(5), rising(100)}
	for _, value := range []int{1, 2, 8, 127, 128, 129, 700, 1022, 1023} {
		for _, mask := range masks() {
			d := diskOf(t, image(14, value, slotsOf(by(1, texts...)...)))
			wants(t, d.Cut(0, mask), api.OK)
			if s, errno := segment.Open(d, someKey, name, someLabel); s != nil || errno != api.ErrOff {
				t.Errorf("Open: a segment: %v, error %d, not %d", s != nil, errno, api.ErrOff)
			}
			found := value
			if lets(mask, value) {
				found++
			}
			is(t, d, image(14, found, slotsOf(by(1, texts...)...)), 1)
			refuses(t, d, api.ErrOff)
			wants(t, d.Restart(), api.OK)
			epoch := (found + 1) % 1025
			holds(t, opened(t, d), 14, epoch, texts...)
		}
	}
}

// P12.4: the power goes in one Open after the other; what is there stays.
func TestCutsInOpens(t *testing.T) {
	for _, mask := range masks() {
		d := diskOf(t, image(14, 1, slotsOf(by(1, rising(5))...)))
		value := 1
		for range 200 {
			wants(t, d.Cut(0, mask), api.OK)
			_, errno := segment.Open(d, someKey, name, someLabel)
			wants(t, errno, api.ErrOff)
			wants(t, d.Restart(), api.OK)
			if lets(mask, value) {
				value++
			}
		}
		holds(t, opened(t, d), 14, value+1, rising(5))
	}
}

// writesOf is how many sectors an Append of n bytes writes if so many are free.
func writesOf(n, free int) int {
	return min(needs(n)+1, free) + 1
}

// cutAppend appends a text to a segment with a cut, and restarts its disk. It returns the records
// that are there then, of which those before the last are the same in any case.
func cutAppend(t *testing.T, d *disk.Disk, s *segment.Segment, text []byte, whole int, mask [16]byte) [][]byte {
	t.Helper()
	before, room, epoch := s.Texts(), s.Room(), s.Epoch()
	at := logAt
	for _, text := range before {
		at += needs(len(text)) * size
	}
	wants(t, d.Cut(whole, mask), api.OK)
	wants(t, s.Append(text), api.ErrOff)
	if !d.Off() || !equal(s.Texts(), before) || s.Room() != room || s.Epoch() != epoch {
		t.Errorf("off is %v, %d records, room for %d, epoch %d", d.Off(), len(s.Texts()), s.Room(), s.Epoch())
	}
	wants(t, d.Restart(), api.OK)
	if b := d.Bytes(); b[at] == 1 {
		if slot := slotOf(sealedAt(len(before), record{uint32(epoch), text})); !bytes.Equal(b[at:][:len(slot)], slot) {
			t.Errorf("the slot of the record is not what it has to be")
		}
		return append(before, text)
	}
	return before
}

// P12.4: a cut in each sector that an Append writes, by all masks: all or nothing of its record, and
// all that was acknowledged; that goes on.
func TestCutInAnAppend(t *testing.T) {
	for _, n := range []int{0, 60, 61, 124, 125, 300} {
		for _, more := range []int{0, 1, 2} {
			free := needs(n) + more
			for whole := range writesOf(n, free) {
				for _, mask := range masks() {
					sectors := front + 2 + free
					d := newDisk(t, sectors)
					s := opened(t, d)
					wants(t, s.Append(rising(70)), api.OK)
					after := cutAppend(t, d, s, rising(n), whole, mask)
					if done := whole+1 == writesOf(n, free) && lets(mask, 0); done != (len(after) == 2) {
						t.Errorf("%d bytes, %d sectors: %d records", n, whole, len(after))
					}
					next := opened(t, d)
					holds(t, next, sectors, 2, after...)
					if next.Room() >= 7 {
						wants(t, next.Append(rising(7)), api.OK)
						after = append(after, rising(7))
					}
					holds(t, opened(t, d), sectors, 3, after...)
				}
			}
		}
	}
}

// P12.2: a cut behind the last sector does not occur in the Append, but in the next one.
func TestCutBehindAnAppend(t *testing.T) {
	for _, n := range edges {
		d := newDisk(t, 40)
		s := opened(t, d)
		wants(t, d.Cut(writesOf(n, 32), [16]byte{}), api.OK)
		wants(t, s.Append(rising(n)), api.OK)
		holds(t, s, 40, 1, rising(n))
		wants(t, s.Append(rising(1)), api.ErrOff)
		wants(t, d.Restart(), api.OK)
		holds(t, opened(t, d), 40, 2, rising(n))
	}
}

// P12.4: the power goes in two Appends, one after the other, anywhere, and in the Open between them.
func TestTwoCuts(t *testing.T) {
	const sectors = front + 7
	few := [][16]byte{{}, {0: 0xfe}, {0: 0x1f}, [16]byte(bytes.Repeat([]byte{255}, 16))}
	for _, x := range []int{3, 61, 130} {
		for _, y := range []int{0, 100, 252} {
			for whole := range writesOf(x, 7) {
				for again := range min(writesOf(y, 7), 3) {
					for i := range len(few) * len(few) {
						d := newDisk(t, sectors)
						once := cutAppend(t, d, opened(t, d), rising(x), whole, few[i%len(few)])
						wants(t, d.Cut(0, few[i/len(few)]), api.OK)
						_, errno := segment.Open(d, someKey, name, someLabel)
						wants(t, errno, api.ErrOff)
						wants(t, d.Restart(), api.OK)
						s := opened(t, d)
						holds(t, s, sectors, s.Epoch(), once...)
						if s.Room() < y {
							continue
						}
						twice := cutAppend(t, d, s, rising(y), again, few[i/len(few)])
						next := opened(t, d)
						holds(t, next, sectors, s.Epoch()+1, twice...)
					}
				}
			}
		}
	}
}

// P12.5: each segment has a greater epoch than those before it, whatever happened in between, up to
// the bound; segments of one disk that are open at once have their own.
func TestEpochsRise(t *testing.T) {
	d := newDisk(t, 12)
	var kept []*segment.Segment
	last := 0
	for i := 0; last < 1024; i++ {
		if i%5 == 4 {
			wants(t, d.Cut(0, masks()[i%7]), api.OK)
			_, errno := segment.Open(d, someKey, name, someLabel)
			wants(t, errno, api.ErrOff)
			wants(t, d.Restart(), api.OK)
		}
		s := opened(t, d)
		if s.Epoch() == 0 {
			break
		}
		if s.Epoch() <= last {
			t.Fatalf("epoch %d after %d", s.Epoch(), last)
		}
		last = s.Epoch()
		kept = append(kept, s)
	}
	for i, s := range kept[1:] {
		if s.Epoch() <= kept[i].Epoch() {
			t.Errorf("epoch %d after %d", s.Epoch(), kept[i].Epoch())
		}
	}
	holds(t, opened(t, d), 12, 0)
}

// sealing is the epoch and the position of a record.
type sealing struct{ epoch, position int }

// P12.4, P12.5: many calls, with cuts here and there, on a disk that is opened again and again: what
// was acknowledged stays, what was in progress is there as a whole or not, and no epoch and position
// is that of two records that were written, wholly or in part.
func TestManyCalls(t *testing.T) {
	for seed := range int64(60) {
		r := rand.New(rand.NewSource(seed))
		sectors := front + 1 + r.Intn(40)
		d := newDisk(t, sectors)
		s, epoch := opened(t, d), 1
		var acked [][]byte
		sealed := map[sealing]bool{}
		for range 100 {
			switch r.Intn(6) {
			case 0:
				s, epoch = again(t, d, epoch)
			case 1:
				var mask [16]byte
				r.Read(mask[:])
				wants(t, d.Cut(r.Intn(8), mask), api.OK)
			default:
				text := make([]byte, r.Intn(1+r.Intn(400)))
				r.Read(text)
				fits, writes := needs(len(text)) <= sectors-front-sectorsOf(acked), d.Writes()
				errno := s.Append(text)
				if d.Writes() != writes {
					at := sealing{s.Epoch(), len(acked)}
					if sealed[at] || !fits {
						t.Fatalf("seed %d: two records at %v, or one that does not fit", seed, at)
					}
					sealed[at] = true
				}
				s, epoch, acked = after(t, d, s, epoch, acked, text, errno, fits)
			}
			holds(t, s, sectors, epoch, acked...)
		}
		if t.Failed() {
			t.Fatalf("seed %d", seed)
		}
	}
}

// sectorsOf is how many sectors the slots of these texts have.
func sectorsOf(texts [][]byte) int {
	n := 0
	for _, text := range texts {
		n += needs(len(text))
	}
	return n
}

// again restarts the disk, and opens it until that is done: a cut may be laid.
func again(t *testing.T, d *disk.Disk, epoch int) (*segment.Segment, int) {
	t.Helper()
	s, errno := segment.Open(d, someKey, name, someLabel)
	if errno == api.ErrOff {
		wants(t, d.Restart(), api.OK)
		s = opened(t, d)
	} else {
		wants(t, errno, api.OK)
	}
	if s.Epoch() <= epoch || s.Epoch() > epoch+2 {
		t.Errorf("epoch %d after %d", s.Epoch(), epoch)
	}
	return s, s.Epoch()
}

// after holds the answer of an Append against what is there. If the power went, it restarts the
// disk, and returns the segment that is then opened.
func after(t *testing.T, d *disk.Disk, s *segment.Segment, epoch int, acked [][]byte, text []byte, errno api.Errno, fits bool) (*segment.Segment, int, [][]byte) {
	t.Helper()
	whole := append(slices.Clone(acked), text)
	switch {
	case !fits:
		wants(t, errno, api.ErrFull)
		return s, epoch, acked
	case errno == api.OK:
		return s, epoch, whole
	}
	wants(t, errno, api.ErrOff)
	wants(t, d.Restart(), api.OK)
	wants(t, s.Append(text), api.ErrOff)
	next, epoch := again(t, d, epoch)
	if equal(next.Texts(), whole) {
		return next, epoch, whole
	}
	return next, epoch, acked
}
