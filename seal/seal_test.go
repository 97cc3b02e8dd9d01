package seal_test

import (
	"bytes"
	"encoding/binary"
	"encoding/hex"
	"math"
	"slices"
	"testing"

	"redwax/api"
	"redwax/seal"
)

const most = 1<<17 - 4

// buckets are all buckets, by the chapter's words.
var buckets = []int{64, 128, 256, 512, 1024, 2048, 4096, 8192, 16384, 32768, 65536, 131072}

// edges are the lengths at which a bucket begins or ends.
var edges = func() []int {
	lengths := []int{0, 1, 2}
	for _, b := range buckets {
		lengths = append(lengths, b-5, b-4, b-3)
	}
	return lengths[:len(lengths)-1]
}()

// someKey is a key whose bytes differ.
var someKey = keyFrom(0)

// somePlace is a place whose bytes differ.
var somePlace = seal.Place{Context: []byte("main"), Position: 0x0102030405060708, Epoch: 0x090a0b0c}

// places are some in which each part is the least, the greatest and something between.
var places = []seal.Place{
	{},
	{Context: []byte{}, Position: 1, Epoch: 1},
	somePlace,
	{Context: []byte{0}, Position: 1 << 32, Epoch: 1 << 24},
	{Context: bytes.Repeat([]byte("ctx"), 50), Position: math.MaxUint64, Epoch: math.MaxUint32},
	{Context: text(1000), Position: 1<<32 - 1, Epoch: 0},
}

// keyFrom is a key whose bytes begin with first and rise.
func keyFrom(first int) api.Hash {
	var key api.Hash
	for i := range key {
		key[i] = byte(first + i)
	}
	return key
}

// text is n bytes that differ along the way; none of the last is zero.
func text(n int) []byte {
	b := make([]byte, n)
	for i := range b {
		b[i] = byte(7*i + i/256 + 1)
	}
	if n > 0 {
		b[n-1] |= 1
	}
	return b
}

// sealed is what a record is sealed as, if it can be.
func sealed(t *testing.T, key api.Hash, p seal.Place, record []byte) []byte {
	t.Helper()
	s, errno := seal.Seal(key, p, record)
	if errno != api.OK {
		t.Fatalf("Seal of %d bytes: error %d", len(record), errno)
	}
	return s
}

// opens checks that s opens as a record and an epoch.
func opens(t *testing.T, key api.Hash, p seal.Place, s, record []byte, epoch uint32) {
	t.Helper()
	got, e, errno := seal.Open(key, p, s)
	if errno != api.OK {
		t.Errorf("Open of %d bytes: error %d", len(s), errno)
		return
	}
	if !bytes.Equal(got, record) || e != epoch {
		t.Errorf("Open of %d bytes: %d bytes (%.20x), not %d (%.20x); epoch %d, not %d",
			len(s), len(got), got, len(record), record, e, epoch)
	}
}

// refuses checks that s does not open, and that nothing is told beside the error.
func refuses(t *testing.T, key api.Hash, p seal.Place, s []byte) {
	t.Helper()
	if got, e, errno := seal.Open(key, p, s); got != nil || e != 0 || errno != api.ErrTamper {
		t.Errorf("Open of %d bytes: %.20x, epoch %d, error %d, not %d", len(s), got, e, errno, api.ErrTamper)
	}
}

// The chapter's examples.
func TestExamples(t *testing.T) {
	for n, want := range map[int]int{0: 64, 60: 64, 61: 128, 131068: 131072, 131069: 0, -1: 0} {
		if got := seal.Bucket(n); got != want {
			t.Errorf("Bucket(%d) is %d, not %d", n, got, want)
		}
	}
	s := sealed(t, someKey, somePlace, []byte("ab"))
	if len(s) != 100 {
		t.Errorf("ab is sealed as %d bytes, not 100", len(s))
	}
	refuses(t, someKey, somePlace, flipped(s, 50*8))
	refuses(t, someKey, somePlace, s[:99])
}

// P11.1: each length that has a bucket, and some that have none.
func TestBucket(t *testing.T) {
	for n := -300; n <= most+300; n++ {
		if got, want := seal.Bucket(n), bucketOf(n); got != want {
			t.Fatalf("Bucket(%d) is %d, not %d", n, got, want)
		}
	}
}

// P11.1: lengths far from those that have a bucket.
func TestBucketOfFarLengths(t *testing.T) {
	for _, n := range []int{math.MinInt, math.MinInt + 4, -1 << 31, -64, 1 << 18, 1<<31 - 1, math.MaxInt - 4, math.MaxInt} {
		if got := seal.Bucket(n); got != 0 {
			t.Errorf("Bucket(%d) is %d, not 0", n, got)
		}
	}
}

// P11.1: the longest record is that which the greatest bucket has room for.
func TestMost(t *testing.T) {
	if got := seal.Most(); got != most {
		t.Errorf("Most is %d, not %d", got, most)
	}
}

// P11.2: bytes that another program worked out by the chapter's words.
func TestSealKnown(t *testing.T) {
	for _, c := range []struct {
		key    api.Hash
		place  seal.Place
		record []byte
		want   string
	}{
		{someKey, somePlace, []byte("ab"), "" +
			"090a0b0cd259ba6de934517aa69787e0ce1b8f52c564daa5d4ac0eb0015ab118cf012ab7f207d41bc02c4fa2d55ed752b8315068" +
			"40d8cc4f552c83f05f1686bb66af9a810f0a07c1a4d2d2512b6da2ccf4b93d4b9a12ba0021b8dea87cdd87fa58ec4e30"},
		{someKey, seal.Place{}, nil, "" +
			"0000000090e6ea43ea16cc04cbc62e2ac3d2df3eb679c9be2a99103cc6c61db62ba58663f3aea381f5c81d8c727b4ef973da2ff2" +
			"cfa803568e0e3cbdf31b94894f67596ee75f0010e76185592d276a55d63739952dbdac892246325781aa58554eafcb33"},
		{api.Hash{}, places[4], rising(61), "" +
			"ffffffffdbd32f154f45b19664986fb9669cb5a89d0de57d30435943ba5441dfacbdc63abdbc225b64824d12e2494be443fdd02b" +
			"8ad48ecd1e3997096d366b1b6e82ab7ed0c92bea8328a94b80948ecffa9f0b5abd79fb79fb539db90e19672d6aa01c04ab4548e8" +
			"c9123431bb56106bfd58dd5cd1cbb93140651f68fcf3a883bfe6795adc0170c89e230bdd5de929778f6949aeed57d22db5b44f85" +
			"d85dc261924213e9"},
	} {
		if got := hex.EncodeToString(sealed(t, c.key, c.place, c.record)); got != c.want {
			t.Errorf("%d bytes are sealed as\n%s, not\n%s", len(c.record), got, c.want)
		}
	}
	long := digest(sealed(t, someKey, seal.Place{Context: []byte("main"), Position: 3, Epoch: 1}, rising(most)))
	if want := "d5ec1a8a55993310f644f3190eace9b98f6ea3b19e687d8ceaf13c5a8f47189d"; long != want {
		t.Errorf("the digest of the longest record, sealed, is %s, not %s", long, want)
	}
}

// P11.2: records of all lengths at which something changes, at places of all kinds.
func TestSeal(t *testing.T) {
	for _, n := range edges {
		for i, p := range places {
			if n > 1024 && i%3 != 0 {
				continue
			}
			record := text(n)
			if got, want := sealed(t, someKey, p, record), sealedByWords(someKey, p, record); !bytes.Equal(got, want) {
				t.Errorf("%d bytes at place %d are not sealed as the chapter says", n, i)
			}
		}
	}
}

// P11.2: a record that is longer than Most.
func TestSealOfTooMuch(t *testing.T) {
	for _, n := range []int{most + 1, most + 2, 1 << 17, 1<<17 + 1, api.MaxRecord, 1 << 20} {
		if s, errno := seal.Seal(someKey, somePlace, make([]byte, n)); s != nil || errno != api.ErrLong {
			t.Errorf("Seal of %d bytes: %d bytes, error %d, not %d", n, len(s), errno, api.ErrLong)
		}
	}
}

// P11.2: each part of a place, and each byte of a key, counts.
func TestSealHangsOnAll(t *testing.T) {
	seen := map[string]bool{}
	add := func(key api.Hash, p seal.Place) {
		// The epoch stands open at the front: what is behind it has to differ, too.
		s := string(sealed(t, key, p, []byte("ab"))[4:])
		if seen[s[:64]] || seen[s[64:]] {
			t.Errorf("a body or a tag at %v is that of another key or place", p)
		}
		seen[s[:64]], seen[s[64:]] = true, true
	}
	add(someKey, somePlace)
	for i := range 64 {
		p := somePlace
		p.Position ^= 1 << i
		add(someKey, p)
	}
	for i := range 32 {
		p := somePlace
		p.Epoch ^= 1 << i
		add(someKey, p)
		key := someKey
		key[i] ^= 0x10
		add(key, somePlace)
	}
	for _, context := range []string{"", "m", "mai", "main\x00", "nain", "maim"} {
		p := somePlace
		p.Context = []byte(context)
		add(someKey, p)
	}
}

// P11.3, P11.4: what was sealed opens; the Epoch that Open is given is not looked at.
func TestOpen(t *testing.T) {
	for _, n := range append(upTo(260), edges...) {
		for i, p := range places {
			if n > 1024 && i%3 != 0 {
				continue
			}
			record := text(n)
			s := sealed(t, someKey, p, record)
			opens(t, someKey, p, s, record, p.Epoch)
			other := p
			other.Epoch = ^p.Epoch
			opens(t, someKey, other, s, record, p.Epoch)
		}
	}
}

// P11.4: records that end with zeros keep them, and those of zeros alone are not the empty one.
func TestOpenKeepsZeros(t *testing.T) {
	for _, n := range []int{0, 1, 2, 59, 60, 61, 123, 124, 125} {
		zeros := make([]byte, n)
		opens(t, someKey, somePlace, sealed(t, someKey, somePlace, zeros), zeros, somePlace.Epoch)
		record := append([]byte("ab"), zeros...)
		opens(t, someKey, somePlace, sealed(t, someKey, somePlace, record), record, somePlace.Epoch)
	}
}

// P11.3: another key, context or position.
func TestOpenElsewhere(t *testing.T) {
	s := sealed(t, someKey, somePlace, []byte("ab"))
	for i := range someKey {
		key := someKey
		key[i] ^= 1
		refuses(t, key, somePlace, s)
	}
	for i := range 64 {
		p := somePlace
		p.Position ^= 1 << i
		refuses(t, someKey, p, s)
	}
	for _, context := range []string{"", "mai", "main\x00", "nain", "maim", "niam"} {
		p := somePlace
		p.Context = []byte(context)
		refuses(t, someKey, p, s)
	}
}

// P11.3, P11.6: each bit of a sealed record counts, those of the epoch too.
func TestOpenOfFlippedBits(t *testing.T) {
	for _, record := range [][]byte{nil, []byte("ab"), text(60), text(61)} {
		s := sealed(t, someKey, somePlace, record)
		for bit := range 8 * len(s) {
			refuses(t, someKey, somePlace, flipped(s, bit))
		}
	}
}

// P11.3: lengths that no sealed record has.
func TestOpenOfOtherLengths(t *testing.T) {
	for n := range 700 {
		if n == 100 || n == 164 || n == 292 || n == 548 {
			continue
		}
		refuses(t, someKey, somePlace, make([]byte, n))
	}
	refuses(t, someKey, somePlace, nil)
	for _, record := range [][]byte{[]byte("ab"), text(61), text(200)} {
		s := sealed(t, someKey, somePlace, record)
		for n := range s {
			refuses(t, someKey, somePlace, s[:n])
			refuses(t, someKey, somePlace, s[len(s)-n:])
		}
		refuses(t, someKey, somePlace, append(slices.Clone(s), 0))
		refuses(t, someKey, somePlace, slices.Concat(s, s))
	}
}

// P11.3: bodies that are no bucket do not open, even with the tag that they would have.
func TestOpenOfTaggedLengths(t *testing.T) {
	for _, n := range []int{0, 1, 4, 32, 60, 63, 65, 96, 127, 129, 192, 1<<17 - 1, 1<<17 + 1, 1 << 18} {
		for _, told := range []int{0, 1, n - 4} {
			plain := make([]byte, n)
			if n >= 4 {
				binary.BigEndian.PutUint32(plain, uint32(max(told, 0)))
			}
			refuses(t, someKey, somePlace, forged(someKey, somePlace, plain))
		}
	}
}

// P11.3: a padded plaintext whose length is above its bucket less 4, or has another bucket, does not
// open, even with the tag of its body; each other one does.
func TestOpenOfTaggedRecords(t *testing.T) {
	for i, bucket := range buckets[:6] {
		least := 0
		if i > 0 {
			least = buckets[i-1] - 3
		}
		for n := range bucket + 3 {
			plain := make([]byte, bucket)
			binary.BigEndian.PutUint32(plain, uint32(n))
			s := forged(someKey, somePlace, plain)
			if n < least || n > bucket-4 {
				refuses(t, someKey, somePlace, s)
			} else {
				opens(t, someKey, somePlace, s, make([]byte, n), somePlace.Epoch)
			}
		}
	}
}

// P11.3: lengths that no bucket has room for.
func TestOpenOfTaggedFarLengths(t *testing.T) {
	for _, bucket := range buckets {
		for _, n := range []uint32{most + 1, 1 << 17, 1 << 18, 1<<31 - 1, 1 << 31, 1<<31 + 1, 1<<32 - 4, 1<<32 - 1} {
			plain := make([]byte, bucket)
			binary.BigEndian.PutUint32(plain, n)
			refuses(t, someKey, somePlace, forged(someKey, somePlace, plain))
		}
	}
}

// P11.3: a byte that is not zero behind the record, whichever it is.
func TestOpenOfTaggedPadding(t *testing.T) {
	for _, c := range []struct{ n, bucket int }{{0, 64}, {2, 64}, {59, 64}, {61, 128}, {90, 128}, {125, 256}} {
		whole := make([]byte, c.bucket)
		binary.BigEndian.PutUint32(whole, uint32(c.n))
		copy(whole[4:], text(c.n))
		opens(t, someKey, somePlace, forged(someKey, somePlace, whole), text(c.n), somePlace.Epoch)
		for i := 4 + c.n; i < c.bucket; i++ {
			for _, x := range []byte{1, 0x80, 0xff} {
				plain := slices.Clone(whole)
				plain[i] = x
				refuses(t, someKey, somePlace, forged(someKey, somePlace, plain))
			}
		}
	}
}

// P11.5: all records of a bucket are sealed as equally many bytes, whatever they and their place are.
func TestSizes(t *testing.T) {
	for n := range 1100 {
		p := places[n%len(places)]
		for _, record := range [][]byte{make([]byte, n), text(n)} {
			if got, want := len(sealed(t, someKey, p, record)), 36+bucketOf(n); got != want {
				t.Errorf("%d bytes are sealed as %d, not %d", n, got, want)
			}
		}
	}
	for _, n := range edges {
		if got, want := len(sealed(t, someKey, somePlace, text(n))), 36+bucketOf(n); got != want {
			t.Errorf("%d bytes are sealed as %d, not %d", n, got, want)
		}
	}
}

// P11.6: of some bytes with some tags, those open that have the tag of their body.
func TestTheTagDecides(t *testing.T) {
	record := []byte("ab")
	right := sealed(t, someKey, somePlace, record)
	other := somePlace
	other.Position++
	for i, tag := range [][]byte{
		right[68:],
		make([]byte, 32),
		bytes.Repeat([]byte{0xff}, 32),
		sealed(t, someKey, other, record)[68:],
		sealed(t, keyFrom(1), somePlace, record)[68:],
		sealed(t, someKey, somePlace, []byte("ac"))[68:],
		reversed(right[68:]),
	} {
		s := slices.Concat(right[:68], tag)
		if i == 0 {
			opens(t, someKey, somePlace, s, record, somePlace.Epoch)
		} else {
			refuses(t, someKey, somePlace, s)
		}
	}
}

// P11.6: the tag is that of the epoch that stands in front, so that none can be told instead.
func TestTheTagHasTheEpoch(t *testing.T) {
	s := sealed(t, someKey, somePlace, []byte("ab"))
	for _, epoch := range []uint32{0, 1, somePlace.Epoch - 1, somePlace.Epoch + 1, math.MaxUint32} {
		changed := slices.Clone(s)
		binary.BigEndian.PutUint32(changed, epoch)
		p := somePlace
		p.Epoch = epoch
		refuses(t, someKey, somePlace, changed)
		refuses(t, someKey, p, changed)
	}
}

// P11.7: no argument is changed; nor is what stands behind it in its memory.
func TestArgumentsAreLeftAlone(t *testing.T) {
	for _, n := range []int{0, 2, 60, 61, 500} {
		context, record := roomy([]byte("main")), roomy(text(n))
		p := seal.Place{Context: context, Position: 5, Epoch: 6}
		s := roomy(sealed(t, someKey, p, record))
		opens(t, someKey, p, s, text(n), 6)
		refuses(t, keyFrom(1), p, s)
		for name, b := range map[string][]byte{"context": context, "record": record, "sealed record": s} {
			if rest := b[len(b):cap(b)]; !bytes.Equal(rest, spare) {
				t.Errorf("%d bytes: what is behind the %s is %x", n, name, rest)
			}
		}
		again := seal.Place{Context: []byte("main"), Position: 5, Epoch: 6}
		if !bytes.Equal(context, again.Context) || !bytes.Equal(record, text(n)) ||
			!bytes.Equal(s, sealed(t, someKey, again, text(n))) {
			t.Errorf("%d bytes: an argument is another now", n)
		}
	}
}

// P11.7: answers share no memory with arguments or with one another.
func TestAnswersAreNew(t *testing.T) {
	for _, n := range []int{2, 60, 61, 500} {
		record := text(n)
		p := seal.Place{Context: []byte("main"), Position: 5, Epoch: 6}
		s, other := sealed(t, someKey, p, record), sealed(t, someKey, p, record)
		clear(record)
		clear(p.Context)
		clear(other[:cap(other)])
		p.Context = []byte("main")
		opens(t, someKey, p, s, text(n), 6)

		got, _, _ := seal.Open(someKey, p, s)
		again, _, _ := seal.Open(someKey, p, s)
		clear(again[:cap(again)])
		kept := slices.Clone(s)
		clear(s)
		if !bytes.Equal(got, text(n)) {
			t.Errorf("%d bytes: what Open told changed with other bytes", n)
		}
		clear(got[:cap(got)])
		opens(t, someKey, p, kept, text(n), 6)
	}
}

// P11.7: the same call, the same answer.
func TestAnswersAreTheSame(t *testing.T) {
	for _, p := range places {
		if a, b := sealed(t, someKey, p, text(70)), sealed(t, someKey, p, text(70)); !bytes.Equal(a, b) {
			t.Errorf("a record is sealed in two ways at %v", p)
		}
	}
}

// P11.7: no bytes make Open panic; by P11.6 none of these opens.
func FuzzOpen(f *testing.F) {
	f.Add([]byte(nil), uint64(0))
	f.Add(make([]byte, 36), uint64(0))
	f.Add(make([]byte, 100), uint64(1))
	f.Add(forged(keyFrom(1), somePlace, make([]byte, 64)), somePlace.Position)
	f.Fuzz(func(t *testing.T, s []byte, position uint64) {
		refuses(t, someKey, seal.Place{Context: []byte("main"), Position: position}, s)
	})
}
