package segment_test

import (
	"bytes"
	"encoding/binary"
	"slices"
	"testing"

	"redwax/api"
	"redwax/disk"
	"redwax/seal"
	"redwax/segment"
)

const (
	size  = api.SectorSize
	front = 8 // sectors of the counter
	logAt = front * size
	most  = 1<<17 - 4
	name  = "main"
)

var (
	someKey   = keyFrom(0)
	someLabel = api.Label{Level: 3, Comp: 0x1f}
)

// edges are the lengths at which a bucket begins or ends, but for the great ones.
var edges = []int{0, 1, 2, 59, 60, 61, 123, 124, 125, 252, 253, 508, 509, 1000, 1020, 1021}

// record is a record and the epoch by which it is sealed.
type record struct {
	epoch uint32
	text  []byte
}

// keyFrom is a key whose bytes begin with first and rise.
func keyFrom(first int) api.Hash {
	var key api.Hash
	for i := range key {
		key[i] = byte(first + i)
	}
	return key
}

// rising is n bytes that differ along the way.
func rising(n int) []byte {
	b := make([]byte, n)
	for i := range b {
		b[i] = byte(7*i + i/256 + 1)
	}
	return b
}

// by is records that are sealed by one epoch.
func by(epoch uint32, texts ...[]byte) []record {
	var l []record
	for _, text := range texts {
		l = append(l, record{epoch, text})
	}
	return l
}

// contextOf is the context, by the chapters' words.
func contextOf(repo string, l api.Label) []byte {
	b := append(binary.AppendUvarint(nil, uint64(len(repo))), repo...)
	return binary.BigEndian.AppendUint64(binary.AppendUvarint(b, uint64(l.Level)), l.Comp)
}

// sealedAt is a record as it is sealed at a position of the segment that most tests use.
func sealedAt(position int, r record) []byte {
	p := seal.Place{Context: contextOf(name, someLabel), Position: uint64(position), Epoch: r.epoch}
	b, _ := seal.Seal(someKey, p, r.text)
	return b
}

// slotOf is the slot of a sealed record.
func slotOf(sealed []byte) []byte {
	b := binary.BigEndian.AppendUint32([]byte{1}, uint32(len(sealed)))
	b = append(b, sealed...)
	return append(b, make([]byte, (size-len(b)%size)%size)...)
}

// slotsOf is the slots of records, sealed one after the other.
func slotsOf(records ...record) []byte {
	var b []byte
	for i, r := range records {
		b = append(b, slotOf(sealedAt(i, r))...)
	}
	return b
}

// counter is the sectors of a counter with a value.
func counter(value int) []byte {
	return append(bytes.Repeat([]byte{1}, value), make([]byte, logAt-value)...)
}

// image is the bytes of a disk of so many sectors: a counter with a value, and slots.
func image(sectors, value int, slots []byte) []byte {
	b := append(counter(value), slots...)
	return append(b, make([]byte, sectors*size-len(b))...)
}

// bucketOf is the bucket of a length, by the words; 0 if there is none.
func bucketOf(n int) int {
	for b := 64; b <= 1<<17; b *= 2 {
		if b >= n+4 {
			return b
		}
	}
	return 0
}

// needs is how many sectors the slot of a record of n bytes has.
func needs(n int) int {
	return (5 + 36 + bucketOf(n) + size - 1) / size
}

// roomOf is how long a record may be if so many sectors are free, by the words.
func roomOf(free int) int {
	room := -1
	for b := 64; b <= 1<<17; b *= 2 {
		if needs(b-4) <= free {
			room = b - 4
		}
	}
	return room
}

// newDisk is a new disk of so many sectors.
func newDisk(t *testing.T, sectors int) *disk.Disk {
	t.Helper()
	d, errno := disk.New(sectors)
	if errno != api.OK {
		t.Fatalf("disk.New(%d): error %d", sectors, errno)
	}
	return d
}

// diskOf is a disk of these bytes; nothing has been written.
func diskOf(t *testing.T, b []byte) *disk.Disk {
	t.Helper()
	d := newDisk(t, len(b)/size)
	wants(t, d.Put(0, b), api.OK)
	return d
}

// takePower takes the power away by a write from elsewhere, without a byte written.
func takePower(t *testing.T, d *disk.Disk) {
	t.Helper()
	wants(t, d.Cut(0, [16]byte{}), api.OK)
	wants(t, d.Write(0, make([]byte, size)), api.ErrOff)
}

// wants checks an error.
func wants(t *testing.T, got, want api.Errno) {
	t.Helper()
	if got != want {
		t.Errorf("error %d, not %d", got, want)
	}
}

// opened is the segment of a disk that can be opened.
func opened(t *testing.T, d *disk.Disk) *segment.Segment {
	t.Helper()
	s, errno := segment.Open(d, someKey, name, someLabel)
	if errno != api.OK || s == nil {
		t.Fatalf("Open: error %d", errno)
	}
	return s
}

// refuses checks that a disk can't be opened, and that nothing is written then.
func refuses(t *testing.T, d *disk.Disk, want api.Errno) {
	t.Helper()
	refusesAs(t, d, someKey, name, someLabel, want)
}

// refusesAs checks it for another key, name or label.
func refusesAs(t *testing.T, d *disk.Disk, key api.Hash, repo string, l api.Label, want api.Errno) {
	t.Helper()
	b, writes := d.Bytes(), d.Writes()
	if s, errno := segment.Open(d, key, repo, l); s != nil || errno != want {
		t.Errorf("Open: a segment: %v, error %d, not %d", s != nil, errno, want)
	}
	is(t, d, b, writes)
}

// is checks the bytes of a disk, and how many sectors have been written.
func is(t *testing.T, d *disk.Disk, want []byte, writes int) {
	t.Helper()
	if got := d.Bytes(); !bytes.Equal(got, want) {
		t.Errorf("the bytes of the disk are\n%x, not\n%x", got, want)
	}
	if d.Writes() != writes {
		t.Errorf("%d sectors written, not %d", d.Writes(), writes)
	}
}

// equal reports whether both have the same records.
func equal(a, b [][]byte) bool {
	return slices.EqualFunc(a, b, bytes.Equal)
}

// textsOf is the records without their epochs.
func textsOf(records []record) [][]byte {
	var texts [][]byte
	for _, r := range records {
		texts = append(texts, r.text)
	}
	return texts
}

// holds checks all that a segment on a disk of so many sectors tells of itself.
func holds(t *testing.T, s *segment.Segment, sectors, epoch int, want ...[]byte) {
	t.Helper()
	if got := s.Texts(); !equal(got, want) {
		t.Errorf("%d records, not %d, or others", len(got), len(want))
	}
	free := sectors - front
	for _, text := range want {
		free -= needs(len(text))
	}
	if s.Epoch() != epoch || s.Room() != roomOf(free) {
		t.Errorf("epoch %d, room for %d; not %d, %d", s.Epoch(), s.Room(), epoch, roomOf(free))
	}
}

// masks are some of a cut.
func masks() [][16]byte {
	return [][16]byte{
		{},
		[16]byte(bytes.Repeat([]byte{255}, 16)),
		{0: 1},
		[16]byte(append([]byte{254}, bytes.Repeat([]byte{255}, 15)...)),
		{0: 0x1e},
		[16]byte(bytes.Repeat([]byte{0x55}, 16)),
		[16]byte(bytes.Repeat([]byte{0xaa}, 16)),
	}
}

// lets reports whether a mask lets the byte at i of a sector through.
func lets(mask [16]byte, i int) bool {
	return mask[i%size/8]&(1<<(i%8)) != 0
}

// strangers are what is no segment: none, one that Open did not return, and copies of one that it did.
func strangers(t *testing.T, d *disk.Disk) []*segment.Segment {
	t.Helper()
	c := *opened(t, d)
	return []*segment.Segment{nil, {}, &c}
}
