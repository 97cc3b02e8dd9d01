package segment_test

import (
	"bytes"
	"crypto/sha256"
	"encoding/binary"
	"encoding/hex"
	"math"
	"slices"
	"strings"
	"testing"

	"redwax/api"
	"redwax/disk"
	"redwax/segment"
)

// The chapter's examples.
func TestExamples(t *testing.T) {
	d := newDisk(t, 20)
	s := opened(t, d)
	wants(t, s.Append([]byte("ab")), api.OK)
	holds(t, s, 20, 1, []byte("ab"))
	holds(t, opened(t, d), 20, 2, []byte("ab"))
	refusesAs(t, d, someKey, "mail", someLabel, api.ErrTamper)
	refusesAs(t, d, someKey, name, api.Label{Level: 3, Comp: 0x1e}, api.ErrTamper)
	refusesAs(t, d, keyFrom(1), name, someLabel, api.ErrTamper)
	refuses(t, newDisk(t, 8), api.ErrArg)
}

// P12.1, P12.2: disks that another program worked out by the chapters' words.
func TestKnownDisks(t *testing.T) {
	d := newDisk(t, 40)
	s := opened(t, d)
	wants(t, s.Append([]byte("ab")), api.OK)
	wants(t, s.Append(rising(61)), api.OK)
	opened(t, d)
	s = opened(t, d)
	wants(t, s.Append(nil), api.OK)
	wants(t, s.Append(rising(1000)), api.OK)
	isKnown(t, d, "be6645e68895f4350450ef83e46aca3a581303a120f3aad009adc931f30dd128")
	first := "0100000064000000016ce038779e50b1555762ecac6d017f1355623c513186654eac61e53ca2714d0bef5a3f855445e946391" +
		"6c0907e4fa8188bc54d617969b0636ef313e1e44cdcf8b7156e55867913bb789a363ca9790e3c7c4bbac2f8cd47cee8875c2a76fd6e72" +
		strings.Repeat("00", 23)
	if got := hex.EncodeToString(d.Bytes()[logAt:][:size]); got != first {
		t.Errorf("the first slot is\n%s, not\n%s", got, first)
	}

	d = newDisk(t, 12)
	long, strange := strings.Repeat("x", 300), api.Label{Level: -1, Comp: math.MaxUint64}
	for _, text := range [][]byte{[]byte("ab"), rising(60)} {
		s, errno := segment.Open(d, api.Hash{}, long, strange)
		wants(t, errno, api.OK)
		wants(t, s.Append(text), api.OK)
	}
	isKnown(t, d, "91ef41655b4adc23ac8338e41cf1dce7aa54e56ef34e5b5a91b8284063f60a58")
}

// isKnown checks the digest of a disk's bytes.
func isKnown(t *testing.T, d *disk.Disk, want string) {
	t.Helper()
	if got := sha256.Sum256(d.Bytes()); hex.EncodeToString(got[:]) != want {
		t.Errorf("the digest of the disk is %x, not %s", got, want)
	}
}

// P12.1: what is no disk.
func TestOpenOfNoDisk(t *testing.T) {
	c := *newDisk(t, 20)
	for _, d := range []*disk.Disk{nil, {}, &c} {
		refuses(t, d, api.ErrNil)
	}
}

// P12.1: disks of all sizes up to some, and of the greatest.
func TestOpenOfSizes(t *testing.T) {
	for n := 1; n <= front; n++ {
		refuses(t, newDisk(t, n), api.ErrArg)
	}
	for _, n := range []int{9, 10, 11, 12, 20, 100, 1 << 14} {
		d := newDisk(t, n)
		holds(t, opened(t, d), n, 1)
		is(t, d, image(n, 1, nil), 1)
	}
}

// P12.1: with the power off. A disk that is too small for the counter is told of first; one without
// a log isn't.
func TestOpenWithoutPower(t *testing.T) {
	for n := 1; n <= 20; n++ {
		want := api.ErrOff
		if n < front {
			want = api.ErrArg
		}
		for _, junk := range [][]byte{nil, {2}} {
			d := newDisk(t, n)
			wants(t, d.Put(0, junk), api.OK)
			takePower(t, d)
			refuses(t, d, want)
		}
	}
}

// P12.1: sectors 0 to 7 that are no counter; they are looked at ahead of the log, and of whether
// there is one.
func TestOpenOfNoCounter(t *testing.T) {
	for _, n := range []int{8, 9, 20} {
		for i := range logAt {
			d := newDisk(t, n)
			wants(t, d.Put(i, []byte{2}), api.OK)
			refuses(t, d, api.ErrTamper)
			if i > 0 {
				wants(t, d.Put(i, []byte{1}), api.OK)
				refuses(t, d, api.ErrTamper)
			}
		}
	}
	for n, want := range map[int]api.Errno{8: api.ErrArg, 9: api.OK, 20: api.OK} {
		_, errno := segment.Open(diskOf(t, image(n, logAt, nil)), someKey, name, someLabel)
		wants(t, errno, want)
	}
}

// P12.1: sectors behind those that are no log.
func TestOpenOfNoLog(t *testing.T) {
	for _, head := range [][]byte{{2}, {255}, {1, 0, 0, 1, 0}, {1, 0, 4, 0, 1}, {1, 255, 255, 255, 255}} {
		for _, value := range []int{0, 1, logAt} {
			refuses(t, diskOf(t, image(9, value, head)), api.ErrTamper)
			refuses(t, diskOf(t, image(11, value, append(slotOf(sealedAt(0, record{1, nil})), head...))), api.ErrTamper)
		}
	}
}

// P12.1: records of the log that can't be opened, alone or behind one that can.
func TestOpenOfNoSealedRecords(t *testing.T) {
	right := sealedAt(0, record{1, []byte("ab")})
	for _, b := range [][]byte{
		nil,
		{1},
		right[:99],
		append(slices.Clone(right), 0),
		make([]byte, 100),
		rising(100),
		sealedAt(2, record{1, []byte("ab")}),
		sealedAt(1<<32, record{1, []byte("ab")}),
		append(sealedAt(0, record{2, nil})[:4], right[4:]...),
		append(right[:68], make([]byte, 32)...),
	} {
		refuses(t, diskOf(t, image(20, 2, slotOf(b))), api.ErrTamper)
		refuses(t, diskOf(t, image(20, 2, append(slotsOf(by(1, []byte("ab"))...), slotOf(b)...))), api.ErrTamper)
	}
}

// P12.1: records at another's position.
func TestOpenOfMovedRecords(t *testing.T) {
	texts := [][]byte{[]byte("a"), []byte("b"), rising(70), nil}
	var slots [][]byte
	for i, text := range texts {
		slots = append(slots, slotOf(sealedAt(i, record{1, text})))
	}
	for i := range slots {
		for j := range slots {
			for k := range slots {
				d := diskOf(t, image(20, 1, slices.Concat(slots[i], slots[j], slots[k])))
				if i == 0 && j == 1 && k == 2 {
					holds(t, opened(t, d), 20, 2, texts[:3]...)
				} else {
					refuses(t, d, api.ErrTamper)
				}
			}
		}
	}
}

// P12.1: each byte of the key, and each part of the context, counts, as soon as there is a record.
func TestOpenByOthers(t *testing.T) {
	d, empty := diskOf(t, image(20, 1, slotsOf(by(1, nil)...))), newDisk(t, 20)
	try := func(key api.Hash, repo string, l api.Label) {
		t.Helper()
		refusesAs(t, d, key, repo, l, api.ErrTamper)
		if _, errno := segment.Open(empty, key, repo, l); errno != api.OK {
			t.Errorf("without records: error %d", errno)
		}
	}
	for i := range someKey {
		key := someKey
		key[i] ^= 4
		try(key, name, someLabel)
	}
	for _, repo := range []string{"", "m", "mai", "main ", "main\x03", "Main", "niam", strings.Repeat("main", 40)} {
		try(someKey, repo, someLabel)
	}
	for i := range 64 {
		try(someKey, name, api.Label{Level: 3, Comp: 0x1f ^ 1<<i})
		try(someKey, name, api.Label{Level: 3 ^ 1<<i, Comp: 0x1f})
	}
}

// P12.1: names and labels of all kinds, valid or not, are those of a segment; what one of them
// sealed the others don't open.
func TestOpenOfContexts(t *testing.T) {
	type context struct {
		repo string
		l    api.Label
	}
	var all []context
	for _, repo := range []string{"", "a", "\x00", "a\x00", strings.Repeat("x", 127), strings.Repeat("x", 128), "\xff\n"} {
		for _, l := range []api.Label{{}, {Level: 15}, {Level: 16, Comp: 1}, {Level: -1}, {Level: math.MinInt, Comp: math.MaxUint64}} {
			all = append(all, context{repo, l})
		}
	}
	for _, x := range all {
		d := newDisk(t, 9)
		s, errno := segment.Open(d, someKey, x.repo, x.l)
		wants(t, errno, api.OK)
		wants(t, s.Append([]byte("ab")), api.OK)
		for _, y := range all {
			if x != y {
				refusesAs(t, d, someKey, y.repo, y.l, api.ErrTamper)
			}
		}
		s, errno = segment.Open(d, someKey, x.repo, x.l)
		wants(t, errno, api.OK)
		holds(t, s, 9, 2, []byte("ab"))
	}
}

// P12.1: all short rows of epochs, held against all counters up to some.
func TestOpenOfEpochs(t *testing.T) {
	const greatest = 4
	for value := range greatest + 1 {
		for n := range 4 {
			for code := range power(greatest+2, n) {
				records := make([]record, n)
				right := true
				least := uint32(1)
				for i := range records {
					records[i] = record{uint32(code % (greatest + 2)), rising(i)}
					code /= greatest + 2
					right = right && least <= records[i].epoch && records[i].epoch <= uint32(value)
					least = records[i].epoch
				}
				d := diskOf(t, image(20, value, slotsOf(records...)))
				if right {
					holds(t, opened(t, d), 20, value+1, textsOf(records)...)
				} else {
					refuses(t, d, api.ErrTamper)
				}
			}
		}
	}
}

// power is a to the n.
func power(a, n int) int {
	p := 1
	for range n {
		p *= a
	}
	return p
}

// P12.1: epochs far from those that are right, and counters near their bound.
func TestOpenOfFarEpochs(t *testing.T) {
	for _, value := range []int{1, 127, 128, 500, 1023, 1024} {
		for _, e := range []uint32{0, 1, 127, 128, 129, 500, 501, 1022, 1023, 1024, 1025, 1 << 31, 1<<32 - 1023, 1<<32 - 1} {
			d := diskOf(t, image(20, value, slotsOf(record{1, nil}, record{e, rising(3)})))
			if e >= 1 && e <= uint32(value) {
				holds(t, opened(t, d), 20, (value+1)%1025, nil, rising(3))
			} else {
				refuses(t, d, api.ErrTamper)
			}
		}
	}
}

// P12.1: what Open writes: a byte of the counter, whatever else there is.
func TestOpenWritesOneSector(t *testing.T) {
	slots := slotsOf(by(1, rising(5), rising(100))...)
	for value := 1; value < logAt; value++ {
		d := diskOf(t, image(14, value, slots))
		s := opened(t, d)
		is(t, d, image(14, value+1, slots), 1)
		if s.Epoch() != value+1 {
			t.Errorf("the epoch is %d, not %d", s.Epoch(), value+1)
		}
	}
}

// P12.1: bytes behind the log's end, and behind a record in its last sector, are left as they are.
func TestOpenLeavesTheRest(t *testing.T) {
	b := image(20, 1, slotsOf(by(1, rising(5))...))
	copy(b[logAt+110:], bytes.Repeat([]byte{9}, size-110))
	copy(b[logAt+size+1:], bytes.Repeat([]byte{9}, 10*size))
	d := diskOf(t, b)
	holds(t, opened(t, d), 20, 2, rising(5))
	b[1] = 1
	is(t, d, b, 1)
}

// P12.1: a cut is to come: what is wrong is told of ahead of it, and then it does not come.
func TestOpenErrorsComeAheadOfTheCut(t *testing.T) {
	for _, b := range [][]byte{
		image(20, 1, []byte{2}),
		image(20, 1, slotsOf(by(2, nil)...)),
		image(20, logAt, slotsOf(by(0, nil)...)),
		append([]byte{2}, make([]byte, 20*size-1)...),
	} {
		d := diskOf(t, b)
		wants(t, d.Cut(0, [16]byte{}), api.OK)
		refuses(t, d, api.ErrTamper)
		if d.Off() {
			t.Errorf("the power is off")
		}
	}
	d := newDisk(t, 8)
	wants(t, d.Cut(0, [16]byte{}), api.OK)
	refuses(t, d, api.ErrArg)
}

// P12.1, P12.2, P12.3: at the counter's bound there is no epoch; nothing is written, and no cut
// comes, but the records are there.
func TestNoEpoch(t *testing.T) {
	texts := [][]byte{rising(5), rising(100)}
	b := image(14, logAt, slotsOf(by(1024, texts...)...))
	d := diskOf(t, b)
	wants(t, d.Cut(0, [16]byte{}), api.OK)
	for range 3 {
		s := opened(t, d)
		holds(t, s, 14, 0, texts...)
		for _, n := range []int{0, 1, 60, 61, 10000, most, most + 1} {
			wants(t, s.Append(make([]byte, n)), api.ErrCount)
		}
		holds(t, s, 14, 0, texts...)
		is(t, d, b, 0)
	}
	s := opened(t, d)
	takePower(t, d)
	wants(t, s.Append(nil), api.ErrCount)
	holds(t, s, 14, 0, texts...)
}

// P12.1, P12.5: the last epoch is used up, and then none is left.
func TestTheLastEpoch(t *testing.T) {
	d := diskOf(t, image(20, logAt-1, nil))
	s := opened(t, d)
	holds(t, s, 20, 1024)
	wants(t, s.Append([]byte("ab")), api.OK)
	is(t, d, image(20, logAt, slotsOf(by(1024, []byte("ab"))...)), 3+1)
	next := opened(t, d)
	holds(t, next, 20, 0, []byte("ab"))
	wants(t, next.Append([]byte("cd")), api.ErrCount)
	wants(t, s.Append([]byte("cd")), api.OK)
	holds(t, opened(t, d), 20, 0, []byte("ab"), []byte("cd"))
}

// P12.3: what is no segment.
func TestNoSegment(t *testing.T) {
	d := diskOf(t, image(20, 1, slotsOf(by(1, []byte("ab"))...)))
	for _, s := range strangers(t, d) {
		b, writes := d.Bytes(), d.Writes()
		for _, n := range []int{0, 1, 61, most, most + 1} {
			wants(t, s.Append(make([]byte, n)), api.ErrNil)
		}
		if s.Texts() != nil || s.Room() != 0 || s.Epoch() != 0 {
			t.Errorf("what is no segment tells: %q, %d, %d", s.Texts(), s.Room(), s.Epoch())
		}
		is(t, d, b, writes)
	}
}

// P12.3: the room, by all numbers of free sectors up to some, and at those where it changes.
func TestRoom(t *testing.T) {
	free := []int{255, 256, 257, 258, 300, 512, 513, 514, 1023, 1024, 1025, 1026, 2048, 2049, 2050, 5000, 1<<14 - 8}
	for n := 1; n < 140; n++ {
		free = append(free, n)
	}
	for _, n := range free {
		holds(t, opened(t, newDisk(t, front+n)), front+n, 1)
	}
	for n, want := range map[int]int{1: 60, 2: 124, 3: 252, 4: 252, 5: 508, 8: 508, 9: 1020, 1024: 65532, 1025: most, 16376: most} {
		if got := opened(t, newDisk(t, front+n)).Room(); got != want {
			t.Errorf("%d sectors: room for %d, not %d", n, got, want)
		}
	}
}

// P12.3: what Texts returns is new each time, and what Append is given is not kept.
func TestTextsAreNew(t *testing.T) {
	d := newDisk(t, 20)
	s := opened(t, d)
	text := []byte("ab")
	wants(t, s.Append(text), api.OK)
	wants(t, s.Append(rising(70)), api.OK)
	text[0] = 'x'
	for epoch, s := range map[int]*segment.Segment{1: s, 2: opened(t, d)} {
		for range 3 {
			holds(t, s, 20, epoch, []byte("ab"), rising(70))
			got := s.Texts()
			for i := range got {
				clear(got[i][:cap(got[i])])
				got[i] = nil
			}
			_ = append(got, []byte("cd"))
		}
	}
}

// P12.3: records with zeros in them, and at their end, stay what they are.
func TestTextsKeepZeros(t *testing.T) {
	texts := [][]byte{{0}, {0, 0}, append([]byte("a"), make([]byte, 20)...), make([]byte, 60), make([]byte, 61), nil}
	d := newDisk(t, 30)
	s := opened(t, d)
	for _, text := range texts {
		wants(t, s.Append(text), api.OK)
	}
	holds(t, s, 30, 1, texts...)
	holds(t, opened(t, d), 30, 2, texts...)
}

// The tests' own context of a name of 128 bytes or more is that of the chapter on numbers.
func TestContextByWords(t *testing.T) {
	b := contextOf(strings.Repeat("x", 300), api.Label{Level: 3, Comp: 0x1f})
	if b[0] != 0xac || b[1] != 0x02 || b[302] != 3 || binary.BigEndian.Uint64(b[303:]) != 0x1f || len(b) != 311 {
		t.Errorf("the context is %x", b)
	}
}
