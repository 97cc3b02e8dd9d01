package segment_test

import (
	"bytes"
	"math/rand"
	"slices"
	"testing"

	"redwax/api"
	"redwax/disk"
	"redwax/segment"
)

// history is records of several epochs, one of them of more than a sector, and the counter's value
// behind them.
func history() ([]record, int) {
	return []record{{1, []byte("ab")}, {1, rising(70)}, {3, nil}, {4, rising(300)}}, 4
}

// prefixes checks that Open of these bytes returns ErrTamper, or a segment whose records are the
// first ones of all; it returns how many, or -1.
func prefixes(t *testing.T, b []byte, all []record) int {
	t.Helper()
	s, errno := segment.Open(diskOf(t, b), someKey, name, someLabel)
	if errno != api.OK {
		if s != nil || errno != api.ErrTamper {
			t.Errorf("Open: a segment: %v, error %d, not %d", s != nil, errno, api.ErrTamper)
		}
		return -1
	}
	got := s.Texts()
	if len(got) > len(all) || !equal(got, textsOf(all[:len(got)])) {
		t.Errorf("%d records that are not the first ones that were appended", len(got))
	}
	return len(got)
}

// P12.6: each byte of a disk is another: what is sealed, and the head of each slot, count.
func TestOtherBytes(t *testing.T) {
	records, value := history()
	b := image(18, value, slotsOf(records...))
	for i := range b {
		for _, change := range []byte{1, 2, 0x80, 0xff} {
			other := slices.Clone(b)
			other[i] ^= change
			want, got := foundAt(i, change, records, value), prefixes(t, other, records)
			if got != want {
				t.Errorf("byte %d with %x: %d records, not %d", i, change, got, want)
			}
		}
	}
}

// foundAt is how many records there are if the byte at i of the history's disk is changed, or -1 if
// it can't be opened.
func foundAt(i int, change byte, records []record, value int) int {
	if i < logAt {
		if i == value && change == 1 {
			return len(records)
		}
		return -1
	}
	at := logAt
	for n, r := range records {
		head, end := at+5+36+bucketOf(len(r.text)), at+needs(len(r.text))*size
		switch {
		case i == at && change == 1:
			return n
		case i < head:
			return -1
		case i < end:
			return len(records)
		}
		at = end
	}
	if i%size == 0 && i == at {
		return -1
	}
	return len(records)
}

// P12.6: sectors of a disk in other places, and in place of others.
func TestMovedSectors(t *testing.T) {
	records, value := history()
	b := image(18, value, slotsOf(records...))
	for i := range 18 {
		for j := range 18 {
			moved, swapped := slices.Clone(b), slices.Clone(b)
			copy(moved[j*size:], b[i*size:(i+1)*size])
			copy(swapped[j*size:], b[i*size:(i+1)*size])
			copy(swapped[i*size:], b[j*size:(j+1)*size])
			prefixes(t, moved, records)
			prefixes(t, swapped, records)
		}
	}
}

// P12.6: the log ends anywhere, before zeros or before what is left of later records: the records up
// to there.
func TestShortenedLogs(t *testing.T) {
	records, value := history()
	all := slotsOf(records...)
	for n := range records {
		kept := slotsOf(records[:n]...)
		marked := slices.Clone(all)
		marked[len(kept)] = 0
		for _, slots := range [][]byte{kept, marked} {
			if got := prefixes(t, image(18, value, slots), records); got != n {
				t.Errorf("%d records, not %d", got, n)
			}
		}
	}
}

// P12.6: a counter that is set back to before the last record's epoch; P12.1: forward, it is right.
func TestCounterSet(t *testing.T) {
	records, value := history()
	for n := range 10 {
		for kept := range len(records) + 1 {
			want := kept
			if kept > 0 && n < int(records[kept-1].epoch) {
				want = -1
			}
			if got := prefixes(t, image(18, n, slotsOf(records[:kept]...)), records); got != want {
				t.Errorf("counter %d, not %d; %d records of %d", n, value, got, kept)
			}
		}
	}
}

// P12.6: sectors from other times and from other segments, and junk, in all places.
func TestMixedDisks(t *testing.T) {
	all, pool := times(t)
	r := rand.New(rand.NewSource(1))
	for range 3000 {
		b := slices.Clone(pool[r.Intn(len(pool))])
		for range 1 + r.Intn(4) {
			from := pool[r.Intn(len(pool))]
			i, j, n := r.Intn(len(b)/size), r.Intn(len(b)/size), 1+r.Intn(6)
			if r.Intn(2) == 0 {
				i = j
			}
			end := min(len(b)/size, i+n)
			copy(b[j*size:], from[i*size:end*size])
		}
		prefixes(t, b, all)
	}
}

// times is the records that were appended to a segment, and the bytes of its disk at all times, of
// other segments' disks at all times, and of junk.
func times(t *testing.T) ([]record, [][]byte) {
	t.Helper()
	var all []record
	var pool [][]byte
	for i, by := range []struct {
		key  api.Hash
		repo string
		l    api.Label
	}{
		{someKey, name, someLabel},
		{keyFrom(1), name, someLabel},
		{someKey, "mail", someLabel},
		{someKey, name, api.Label{Level: 4, Comp: 0x1f}},
		{someKey, name, api.Label{Level: 3, Comp: 0x1e}},
	} {
		d := newDisk(t, 40)
		for e := range 4 {
			s, errno := segment.Open(d, by.key, by.repo, by.l)
			wants(t, errno, api.OK)
			for k := range 3 {
				text := rising(50*k + 10*e + i)
				wants(t, s.Append(text), api.OK)
				pool = append(pool, d.Bytes())
				if i == 0 {
					all = append(all, record{uint32(e + 1), text})
				}
			}
		}
	}
	return all, append(pool, image(40, 0, nil), bytes.Repeat([]byte{1}, 40*size), bytes.Repeat([]byte{0xee}, 40*size))
}

// P12.6: a record that was sealed when the power was lost is one, if its slot is put there; and no
// longer, if another one stands there or behind it.
func TestARecordThatWasLost(t *testing.T) {
	d := newDisk(t, 14)
	s := opened(t, d)
	wants(t, s.Append([]byte("ab")), api.OK)
	wants(t, d.Cut(2, [16]byte{}), api.OK)
	wants(t, s.Append([]byte("cd")), api.ErrOff)
	wants(t, d.Restart(), api.OK)
	was := d.Bytes()[logAt+size:][:size]

	c := d.Copy()
	wants(t, c.Put(logAt+size, []byte{1}), api.OK)
	holds(t, opened(t, c), 14, 2, []byte("ab"), []byte("cd"))

	next := opened(t, d)
	wants(t, next.Append([]byte("ef")), api.OK)
	was[0] = 1
	wants(t, d.Put(logAt+2*size, was), api.OK)
	refuses(t, d, api.ErrTamper)
	wants(t, d.Put(logAt+size, was), api.OK)
	refuses(t, d, api.ErrTamper)
	wants(t, d.Put(logAt+2*size, []byte{0}), api.OK)
	holds(t, opened(t, d), 14, 3, []byte("ab"), []byte("cd"))
}

// pair is two segments, on disks of their own, and which bytes of these are of bodies and tags.
type pair struct {
	disks    [2]*disk.Disk
	segments [2]*segment.Segment
	hidden   []bool
}

// open opens both, each by its own key and context.
func (p *pair) open() [2]api.Errno {
	var errnos [2]api.Errno
	p.segments[0], errnos[0] = segment.Open(p.disks[0], someKey, name, someLabel)
	p.segments[1], errnos[1] = segment.Open(p.disks[1], keyFrom(9), "other", api.Label{Level: 1})
	return errnos
}

// append appends a text to each, both of one bucket, and takes note of where their bodies and tags
// come.
func (p *pair) append(r *rand.Rand) [2]api.Errno {
	bucket := 64 << r.Intn(4)
	at, room := logAt, p.segments[0].Room()
	for _, text := range p.segments[0].Texts() {
		at += needs(len(text)) * size
	}
	var errnos [2]api.Errno
	for i, s := range p.segments {
		text := make([]byte, bucket-4-r.Intn(bucket/2-4))
		if bucket == 64 && r.Intn(2) == 0 {
			text = text[:0]
		}
		r.Read(text)
		errnos[i] = s.Append(text)
	}
	if bucket-4 <= room {
		for i := range 36 - 4 + bucket {
			p.hidden[at+9+i] = true
		}
	}
	return errnos
}

// alike checks that all other bytes, and the numbers of written sectors, are the same.
func (p *pair) alike(t *testing.T) {
	t.Helper()
	a, b := p.disks[0].Bytes(), p.disks[1].Bytes()
	for i := range a {
		if a[i] != b[i] && !p.hidden[i] {
			t.Fatalf("byte %d differs: %d, %d", i, a[i], b[i])
		}
	}
	if p.disks[0].Writes() != p.disks[1].Writes() || p.disks[0].Off() != p.disks[1].Off() {
		t.Fatalf("%d sectors written, %d; off is %v, %v", p.disks[0].Writes(), p.disks[1].Writes(), p.disks[0].Off(), p.disks[1].Off())
	}
}

// P12.7: the same calls, with cuts, by two keys and in two contexts, of other texts with the same
// buckets.
func TestBytesHangOnBuckets(t *testing.T) {
	for seed := range int64(60) {
		r := rand.New(rand.NewSource(seed))
		sectors := front + 1 + r.Intn(50)
		p := &pair{disks: [2]*disk.Disk{newDisk(t, sectors), newDisk(t, sectors)}, hidden: make([]bool, sectors*size)}
		p.open()
		for range 60 {
			errnos := p.oneCall(t, r)
			if errnos[0] != errnos[1] {
				t.Errorf("seed %d: errors %d, %d", seed, errnos[0], errnos[1])
			}
			p.alike(t)
			if p.disks[0].Off() {
				for i := range p.disks {
					wants(t, p.disks[i].Restart(), api.OK)
				}
				p.open()
			}
			x, y := p.segments[0], p.segments[1]
			if x.Room() != y.Room() || x.Epoch() != y.Epoch() || len(x.Texts()) != len(y.Texts()) {
				t.Errorf("seed %d: both segments tell other numbers", seed)
			}
		}
		if t.Failed() {
			t.Fatalf("seed %d", seed)
		}
	}
}

// oneCall makes one call of both.
func (p *pair) oneCall(t *testing.T, r *rand.Rand) [2]api.Errno {
	t.Helper()
	switch r.Intn(6) {
	case 0:
		return p.open()
	case 1:
		var mask [16]byte
		r.Read(mask[:])
		whole := r.Intn(12)
		return [2]api.Errno{p.disks[0].Cut(whole, mask), p.disks[1].Cut(whole, mask)}
	}
	return p.append(r)
}
