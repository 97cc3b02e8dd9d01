package segment_test

import (
	"bytes"
	"slices"
	"testing"

	"redwax/api"
	"redwax/disk"
)

// P12.2: records of all lengths at which something changes, one after the other: what is on the disk
// then, and what a segment that is opened then has.
func TestAppend(t *testing.T) {
	const sectors = 90
	d := newDisk(t, sectors)
	s := opened(t, d)
	var records []record
	for _, n := range edges {
		wants(t, s.Append(rising(n)), api.OK)
		records = append(records, record{1, rising(n)})
		holds(t, s, sectors, 1, textsOf(records)...)
		is(t, d, image(sectors, 1, slotsOf(records...)), d.Writes())
		c := d.Copy()
		holds(t, opened(t, c), sectors, 2, textsOf(records)...)
	}
}

// P12.2: records of equal bytes are sealed anew each time.
func TestAppendOfTheSame(t *testing.T) {
	d := newDisk(t, 20)
	s := opened(t, d)
	for range 5 {
		wants(t, s.Append([]byte("ab")), api.OK)
	}
	is(t, d, image(20, 1, slotsOf(by(1, bytes.Split([]byte("ab,ab,ab,ab,ab"), []byte(","))...)...)), 1+5*3)
	seen := map[string]bool{}
	for i := range 5 {
		slot := d.Bytes()[logAt+i*size:][:size]
		seen[string(slot[9:73])], seen[string(slot[73:105])] = true, true
	}
	if len(seen) != 10 {
		t.Errorf("%d bodies and tags of 10 differ", len(seen))
	}
}

// P12.1, P12.2: each opening seals by its own epoch, and goes on at the next position.
func TestAppendByEachEpoch(t *testing.T) {
	const sectors = 40
	d := newDisk(t, sectors)
	var records []record
	for e := 1; e <= 9; e++ {
		s := opened(t, d)
		holds(t, s, sectors, e, textsOf(records)...)
		for i := range e % 3 {
			text := rising(40*i + e)
			wants(t, s.Append(text), api.OK)
			records = append(records, record{uint32(e), text})
		}
		holds(t, s, sectors, e, textsOf(records)...)
		is(t, d, image(sectors, e, slotsOf(records...)), d.Writes())
	}
}

// P12.2: the longest record, and those that are longer; ErrLong comes ahead of ErrOff and ErrFull.
func TestAppendOfTheLongest(t *testing.T) {
	for _, sectors := range []int{9, 8 + 1024, 8 + 1025, 8 + 1026, 3000} {
		d := newDisk(t, sectors)
		s := opened(t, d)
		for _, n := range []int{most + 1, most + 2, 1 << 17, api.MaxRecord, api.MaxRecord + 1, 1 << 20} {
			wants(t, s.Append(make([]byte, n)), api.ErrLong)
		}
		holds(t, s, sectors, 1)
		is(t, d, image(sectors, 1, nil), 1)
		if sectors < 8+1025 {
			wants(t, s.Append(rising(most)), api.ErrFull)
			is(t, d, image(sectors, 1, nil), 1)
			continue
		}
		wants(t, s.Append(rising(most)), api.OK)
		holds(t, s, sectors, 1, rising(most))
		is(t, d, image(sectors, 1, slotsOf(by(1, rising(most))...)), d.Writes())
		holds(t, opened(t, d), sectors, 2, rising(most))
		takePower(t, d)
		wants(t, s.Append(make([]byte, most+1)), api.ErrLong)
	}
}

// P12.2, P12.3: a record as long as Room tells fits, one of a byte more doesn't: it writes nothing,
// and the segment goes on.
func TestAppendOfTheRoom(t *testing.T) {
	for free := 1; free <= 36; free++ {
		for _, n := range []int{-1, 0, 61, 125} {
			d := newDisk(t, front+free)
			s := opened(t, d)
			var texts [][]byte
			if n >= 0 && needs(n) <= free {
				wants(t, s.Append(rising(n)), api.OK)
				texts = append(texts, rising(n))
			}
			for room := s.Room(); room >= 0 && !t.Failed(); room = s.Room() {
				b, writes := d.Bytes(), d.Writes()
				for _, more := range []int{1, 2, 64, 10 * size} {
					wants(t, s.Append(rising(room+more)), api.ErrFull)
				}
				is(t, d, b, writes)
				wants(t, s.Append(rising(room)), api.OK)
				texts = append(texts, rising(room))
				holds(t, s, front+free, 1, texts...)
			}
			for _, n := range []int{0, 1, 60, most} {
				wants(t, s.Append(rising(n)), api.ErrFull)
			}
			is(t, d, image(front+free, 1, slotsOf(by(1, texts...)...)), d.Writes())
		}
	}
}

// P12.2: with the power off, ErrOff comes ahead of ErrFull. If it did not go during an Append, the
// segment goes on after a restart, at the same position.
func TestAppendWithoutPower(t *testing.T) {
	d := newDisk(t, 10)
	s := opened(t, d)
	wants(t, s.Append(rising(9)), api.OK)
	takePower(t, d)
	b, writes := d.Bytes(), d.Writes()
	for _, n := range []int{0, 1, 60, 61, 10000, most} {
		wants(t, s.Append(make([]byte, n)), api.ErrOff)
	}
	wants(t, s.Append(make([]byte, most+1)), api.ErrLong)
	is(t, d, b, writes)
	holds(t, s, 10, 1, rising(9))
	wants(t, d.Restart(), api.OK)
	is(t, d, b, writes)
	holds(t, s, 10, 1, rising(9))
	wants(t, s.Append(rising(10)), api.OK)
	is(t, d, image(10, 1, slotsOf(by(1, rising(9), rising(10))...)), writes+2)
	holds(t, opened(t, d), 10, 2, rising(9), rising(10))
}

// P12.2: a segment whose Append lost the power takes nothing any more, even after a restart; nor
// does it write anything. The segment that is opened then does.
func TestALostSegment(t *testing.T) {
	for whole := range 4 {
		d := newDisk(t, 14)
		s := opened(t, d)
		wants(t, s.Append(rising(9)), api.OK)
		wants(t, d.Cut(whole, [16]byte{}), api.OK)
		wants(t, s.Append(rising(100)), api.ErrOff)
		for range 2 {
			wants(t, d.Restart(), api.OK)
			b, writes := d.Bytes(), d.Writes()
			for _, n := range []int{0, 1, 100, 1000, most} {
				wants(t, s.Append(rising(n)), api.ErrOff)
			}
			wants(t, s.Append(make([]byte, most+1)), api.ErrLong)
			holds(t, s, 14, 1, rising(9))
			is(t, d, b, writes)
			if d.Off() {
				t.Errorf("the power is off")
			}
		}
		next := opened(t, d)
		holds(t, next, 14, 2, rising(9))
		wants(t, next.Append(rising(101)), api.OK)
		wants(t, s.Append(nil), api.ErrOff)
		is(t, d, image(14, 2, slotsOf(record{1, rising(9)}, record{2, rising(101)})), d.Writes())
		holds(t, opened(t, d), 14, 3, rising(9), rising(101))
	}
}

// P12.2: refused Appends leave a segment that goes on, at the position that they would have had.
func TestAppendAfterErrors(t *testing.T) {
	d := newDisk(t, 11)
	s := opened(t, d)
	wants(t, d.Cut(100, [16]byte{}), api.OK)
	for i := range 3 {
		wants(t, s.Append(rising(253)), api.ErrFull)
		wants(t, s.Append(make([]byte, most+1)), api.ErrLong)
		wants(t, s.Append(rising(i)), api.OK)
	}
	wants(t, s.Append(nil), api.ErrFull)
	is(t, d, image(11, 1, slotsOf(by(1, rising(0), rising(1), rising(2))...)), d.Writes())
}

// P12.2: what was the disk is none any more: its error, and then the segment takes nothing.
func TestAppendWithoutADisk(t *testing.T) {
	d := newDisk(t, 20)
	s := opened(t, d)
	wants(t, s.Append([]byte("ab")), api.OK)
	*d = disk.Disk{}
	wants(t, s.Append([]byte("cd")), api.ErrNil)
	wants(t, s.Append([]byte("cd")), api.ErrOff)
	holds(t, s, 20, 1, []byte("ab"))
}

// P12.2: the text is not changed; nor is what stands behind it in its memory.
func TestAppendLeavesTheText(t *testing.T) {
	d := newDisk(t, 20)
	s := opened(t, d)
	for _, n := range []int{0, 2, 60, 61} {
		spare := []byte{0xa5, 0x5a, 0xa5, 0x5a}
		all := slices.Concat(rising(n), spare)
		wants(t, s.Append(all[:n]), api.OK)
		if !bytes.Equal(all, slices.Concat(rising(n), spare)) {
			t.Errorf("%d bytes: the text is another now, or what is behind it", n)
		}
		clear(all)
	}
	holds(t, s, 20, 1, nil, rising(2), rising(60), rising(61))
}

// P12.2: segments on two disks are apart.
func TestTwoDisks(t *testing.T) {
	d, other := newDisk(t, 14), newDisk(t, 12)
	s, next := opened(t, d), opened(t, other)
	wants(t, s.Append([]byte("a")), api.OK)
	wants(t, next.Append([]byte("b")), api.OK)
	wants(t, d.Cut(0, [16]byte{}), api.OK)
	wants(t, s.Append([]byte("c")), api.ErrOff)
	wants(t, next.Append([]byte("d")), api.OK)
	holds(t, s, 14, 1, []byte("a"))
	holds(t, next, 12, 1, []byte("b"), []byte("d"))
	is(t, other, image(12, 1, slotsOf(by(1, []byte("b"), []byte("d"))...)), other.Writes())
}
