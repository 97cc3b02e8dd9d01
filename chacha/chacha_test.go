package chacha_test

import (
	"bytes"
	"encoding/binary"
	"encoding/hex"
	"math"
	"strings"
	"testing"

	"redwax/api"
	"redwax/chacha"
)

const last uint32 = math.MaxUint32

var (
	counters = []uint32{0, 1, 2, 255, 256, 65536, 1 << 31, last - 1, last}
	lengths  = []int{0, 1, 2, 31, 63, 64, 65, 100, 127, 128, 129, 191, 192, 193, 1000}
)

// text returns n bytes that differ along the way.
func text(n int) []byte {
	b := make([]byte, n)
	for i := range b {
		b[i] = byte(i*i + 7*i + n)
	}
	return b
}

func unhex(s string) []byte {
	b, err := hex.DecodeString(strings.ReplaceAll(s, " ", ""))
	if err != nil {
		panic(err)
	}
	return b
}

// risingKey is the key 00 01 .. 1f.
func risingKey() api.Hash {
	var key api.Hash
	for i := range key {
		key[i] = byte(i)
	}
	return key
}

func keys() []api.Hash {
	return []api.Hash{{}, risingKey(), api.Hash(text(32)), api.Hash(bytes.Repeat([]byte{255}, 32)), {0: 1}, {31: 128}}
}

func nonces() []chacha.Nonce {
	return []chacha.Nonce{
		{}, {3: 9, 7: 0x4a}, {7: 0x4a}, chacha.Nonce(text(12)), chacha.Nonce(bytes.Repeat([]byte{255}, 12)), {0: 1}, {11: 128},
	}
}

// someWords returns n fours of words: those with few bits, those with many, and mixed ones.
func someWords(n int) [][4]uint32 {
	l := [][4]uint32{{}, {last, last, last, last}, {1 << 31, 1 << 31, 1 << 31, 1 << 31}, {last, 1, 0, 0}, {0, 0, last, 1}}
	for bit := range 128 {
		var w [4]uint32
		w[bit/32] = 1 << (bit % 32)
		l = append(l, w)
	}
	x := uint32(1)
	for len(l) < n {
		var w [4]uint32
		for i := range w {
			x = x*1664525 + 1013904223
			w[i] = x ^ x>>15
		}
		l = append(l, w)
	}
	return l
}

// plus and left are worked out in 64 bits, apart from the wrap-round of words.
func plus(x, y uint32) uint32 {
	return uint32((uint64(x) + uint64(y)) % (1 << 32))
}

func left(x uint32, n int) uint32 {
	wide := uint64(x) << n
	return uint32(wide%(1<<32)) + uint32(wide/(1<<32))
}

// mix works a quarter round out by the words of the chapter.
func mix(a, b, c, d *uint32) {
	for _, n := range [2][2]int{{16, 12}, {8, 7}} {
		*a = plus(*a, *b)
		*d = left(*d^*a, n[0])
		*c = plus(*c, *d)
		*b = left(*b^*c, n[1])
	}
}

// unmix takes a quarter round back.
func unmix(w [4]uint32) [4]uint32 {
	a, b, c, d := w[0], w[1], w[2], w[3]
	for _, n := range [2][2]int{{8, 7}, {16, 12}} {
		b = left(b, 32-n[1]) ^ c
		c -= d
		d = left(d, 32-n[0]) ^ a
		a -= b
	}
	return [4]uint32{a, b, c, d}
}

// blockOf works a block out by the words of the chapter.
func blockOf(key api.Hash, counter uint32, nonce chacha.Nonce) [64]byte {
	bare := append([]byte("expand 32-byte k"), key[:]...)
	bare = binary.LittleEndian.AppendUint32(bare, counter)
	bare = append(bare, nonce[:]...)
	var first, s [16]uint32
	for i := range first {
		first[i] = binary.LittleEndian.Uint32(bare[4*i:])
	}
	s = first
	for round := range 20 {
		for i := range 4 {
			turn := round % 2
			mix(&s[i], &s[4+(i+turn)%4], &s[8+(i+2*turn)%4], &s[12+(i+3*turn)%4])
		}
	}
	var block []byte
	for i := range s {
		block = binary.LittleEndian.AppendUint32(block, plus(s[i], first[i]))
	}
	return [64]byte(block)
}

// streamed xors each byte of b with its own one of the blocks.
func streamed(key api.Hash, counter uint32, nonce chacha.Nonce, b []byte) []byte {
	var out []byte
	for i, x := range b {
		block := blockOf(key, counter+uint32(i/64), nonce)
		out = append(out, x^block[i%64])
	}
	return out
}

// stream is Stream where it has to succeed.
func stream(t *testing.T, key api.Hash, counter uint32, nonce chacha.Nonce, b []byte) []byte {
	t.Helper()
	out, errno := chacha.Stream(key, counter, nonce, b)
	if errno != api.OK {
		t.Fatalf("%d bytes from the counter %d on: error %d", len(b), counter, errno)
	}
	return out
}

// blocksLeft returns the number of blocks that a counter and those that follow it have.
func blocksLeft(counter uint32) uint64 {
	return 1<<32 - uint64(counter)
}

// P3.1 to P3.3: the chapter's examples.
func TestExamples(t *testing.T) {
	quarter := chacha.Quarter([4]uint32{0x11111111, 0x01020304, 0x9b8d6f43, 0x01234567})
	if want := [4]uint32{0xea2a92f4, 0xcb1cf8ce, 0x4581472e, 0x5881c4bb}; quarter != want {
		t.Errorf("a quarter round: %08x, not %08x", quarter, want)
	}
	block := chacha.Block(risingKey(), 1, chacha.Nonce{3: 9, 7: 0x4a})
	if want := unhex("10 f1 e7 e4 d1 3b 59 15 50 0f dd 1f a3 20 71 c4"); !bytes.Equal(block[:16], want) {
		t.Errorf("the block begins with %x, not %x", block[:16], want)
	}
	if _, errno := chacha.Stream(api.Hash{}, 0xffffffff, chacha.Nonce{}, text(65)); errno != api.ErrCount {
		t.Errorf("65 bytes from the last counter on: error %d", errno)
	}
	if _, errno := chacha.Stream(api.Hash{}, 0xffffffff, chacha.Nonce{}, text(64)); errno != api.OK {
		t.Errorf("64 bytes from the last counter on: error %d", errno)
	}
}

// P3.1: words that are known (RFC 8439, 2.2.1, and zeros), and others.
func TestQuarter(t *testing.T) {
	for _, c := range [][2][4]uint32{
		{{0x516461b1, 0x2a5f714c, 0x53372767, 0x3d631689}, {0xbdb886dc, 0xcfacafd2, 0xe46bea80, 0xccc07c79}},
		{{}, {}},
	} {
		if got := chacha.Quarter(c[0]); got != c[1] {
			t.Errorf("Quarter(%08x) = %08x, not %08x", c[0], got, c[1])
		}
	}
	for _, w := range someWords(2000) {
		want := w
		mix(&want[0], &want[1], &want[2], &want[3])
		if got := chacha.Quarter(w); got != want {
			t.Errorf("Quarter(%08x) = %08x, not %08x", w, got, want)
		}
	}
}

// P3.2: blocks that are known: those of RFC 8439 (A.1 and 2.3.2), and others of the greatest counters.
func TestKnownBlocks(t *testing.T) {
	ones := api.Hash(bytes.Repeat([]byte{255}, 32))
	for i, c := range []struct {
		key     api.Hash
		counter uint32
		nonce   chacha.Nonce
		want    string
	}{
		{api.Hash{}, 0, chacha.Nonce{}, "76b8e0ada0f13d90405d6ae55386bd28bdd219b8a08ded1aa836efcc8b770dc7da41597c5157488d7724e03fb8d84a376a43b8f41518a11cc387b669b2ee6586"},
		{api.Hash{}, 1, chacha.Nonce{}, "9f07e7be5551387a98ba977c732d080dcb0f29a048e3656912c6533e32ee7aed29b721769ce64e43d57133b074d839d531ed1f28510afb45ace10a1f4b794d6f"},
		{api.Hash{31: 1}, 1, chacha.Nonce{}, "3aeb5224ecf849929b9d828db1ced4dd832025e8018b8160b82284f3c949aa5a8eca00bbb4a73bdad192b5c42f73f2fd4e273644c8b36125a64addeb006c13a0"},
		{api.Hash{1: 255}, 2, chacha.Nonce{}, "72d54dfbf12ec44b362692df94137f328fea8da73990265ec1bbbea1ae9af0ca13b25aa26cb4a648cb9b9d1be65b2c0924a66c54d545ec1b7374f4872e99f096"},
		{api.Hash{}, 0, chacha.Nonce{11: 2}, "c2c64d378cd536374ae204b9ef933fcd1a8b2288b3dfa49672ab765b54ee27c78a970e0e955c14f3a88e741b97c286f75f8fc299e8148362fa198a39531bed6d"},
		{risingKey(), 1, chacha.Nonce{3: 9, 7: 0x4a}, "10f1e7e4d13b5915500fdd1fa32071c4c7d1f4c733c068030422aa9ac3d46c4ed2826446079faa0914c2d705d98b02a2b5129cd1de164eb9cbd083e8a2503c4e"},
		{risingKey(), last, chacha.Nonce{3: 9, 7: 0x4a}, "ff2941b8d740f6cbb50936bf997ebd5218cb108dc53f41c64841d0218167430ca03b770ca74ccb642a28194d1dedd2ed13151e25ec5d7faeb6d060bfb7e6b146"},
		{api.Hash{}, last, chacha.Nonce{}, "ace4cd09e294d1912d4ad205d06f95d9c2f2bfcf453e8753f128765b62215f4d92c74f2f626c6a640c0b1284d839ec81f1696281dafc3e684593937023b58b1d"},
		{ones, last - 1, chacha.Nonce(bytes.Repeat([]byte{255}, 12)), "7e5709961e09fccd84e36881e70abfd09e4f8c9cc9644c73dd5715cebf3c25e04925ea9f3eadd4532017b67842867d0824996dec95d758c2b2645013e23e8fca"},
	} {
		if got := chacha.Block(c.key, c.counter, c.nonce); !bytes.Equal(got[:], unhex(c.want)) {
			t.Errorf("block %d is %x, not %s", i, got, c.want)
		}
	}
}

// P3.2: several keys, counters and nonces.
func TestBlock(t *testing.T) {
	for _, key := range keys() {
		for _, counter := range counters {
			for _, nonce := range nonces() {
				got, want := chacha.Block(key, counter, nonce), blockOf(key, counter, nonce)
				if got != want {
					t.Errorf("key %x, counter %d, nonce %x: %x, not %x", key, counter, nonce, got, want)
				}
			}
		}
	}
}

// P3.2: each bit of the key, of the counter and of the nonce counts, and each for itself.
func TestBlockHangsOnEachBit(t *testing.T) {
	seen := map[[64]byte]bool{chacha.Block(api.Hash{}, 0, chacha.Nonce{}): true}
	for bit := range 256 {
		var key api.Hash
		key[bit/8] = 1 << (bit % 8)
		seen[chacha.Block(key, 0, chacha.Nonce{})] = true
	}
	for bit := range 32 {
		seen[chacha.Block(api.Hash{}, 1<<bit, chacha.Nonce{})] = true
	}
	for bit := range 96 {
		var nonce chacha.Nonce
		nonce[bit/8] = 1 << (bit % 8)
		seen[chacha.Block(api.Hash{}, 0, nonce)] = true
	}
	if want := 1 + 256 + 32 + 96; len(seen) != want {
		t.Errorf("%d states have %d blocks", want, len(seen))
	}
}

// P3.3: a text that is known (RFC 8439, 2.4.2).
func TestKnownStream(t *testing.T) {
	b := []byte("Ladies and Gentlemen of the class of '99: If I could offer you only one tip for the future, sunscreen would be it.")
	want := unhex("6e2e359a2568f98041ba0728dd0d6981e97e7aec1d4360c20a27afccfd9fae0bf91b65c5524733ab8f593dabcd62b3571639d624e65152ab" +
		"8f530c359f0861d807ca0dbf500d6a6156a38e088a22b65e52bc514d16ccf806818ce91ab77937365af90bbf74a35be6b40b8eedf2785e42874d")
	if got := stream(t, risingKey(), 1, chacha.Nonce{7: 0x4a}, b); !bytes.Equal(got, want) {
		t.Errorf("%x, not %x", got, want)
	}
}

// P3.3: no bytes, fewer than 64, 64 and more, from all kinds of counters on.
func TestStream(t *testing.T) {
	for i, key := range keys() {
		nonce := nonces()[i]
		for _, counter := range counters {
			for _, n := range lengths {
				if uint64(n+63)/64 > blocksLeft(counter) {
					continue
				}
				b := text(n)
				got, want := stream(t, key, counter, nonce, b), streamed(key, counter, nonce, b)
				if !bytes.Equal(got, want) {
					t.Errorf("key %x, counter %d, %d bytes: %x, not %x", key, counter, n, got, want)
				}
			}
		}
	}
}

// P3.3: the stream of zeros is the blocks; many of them, and over a carry of the counter's bytes.
func TestStreamOfZeros(t *testing.T) {
	for _, counter := range []uint32{0, 1, 200, 65400, 1<<24 - 100, last - 299} {
		got := stream(t, risingKey(), counter, chacha.Nonce{1}, make([]byte, 300*64))
		for i := range uint32(300) {
			if want := chacha.Block(risingKey(), counter+i, chacha.Nonce{1}); !bytes.Equal(got[64*i:64*i+64], want[:]) {
				t.Errorf("from the counter %d on: block %d is not that of its counter", counter, i)
			}
		}
	}
}

// P3.3: no bytes need no counter, and nil is no bytes.
func TestStreamOfNothing(t *testing.T) {
	for _, counter := range counters {
		for _, b := range [][]byte{nil, {}, text(9)[:0]} {
			if out, errno := chacha.Stream(api.Hash{}, counter, chacha.Nonce{}, b); errno != api.OK || len(out) != 0 {
				t.Errorf("no bytes from the counter %d on: %x, error %d", counter, out, errno)
			}
		}
	}
}

// P3.3: the last counter may be used, none behind it.
func TestStreamToTheLastCounter(t *testing.T) {
	for _, blocks := range []int{1, 2, 3, 7, 100} {
		counter := last - uint32(blocks) + 1
		for _, n := range []int{64*blocks - 64, 64*blocks - 63, 64*blocks - 1, 64 * blocks} {
			b := text(n)
			if !bytes.Equal(stream(t, risingKey(), counter, chacha.Nonce{}, b), streamed(risingKey(), counter, chacha.Nonce{}, b)) {
				t.Errorf("%d bytes from the counter %d on are not those of the blocks", n, counter)
			}
		}
		for _, n := range []int{64*blocks + 1, 64*blocks + 63, 64*blocks + 64, 64*blocks + 65, 64*blocks + 6400} {
			if out, errno := chacha.Stream(risingKey(), counter, chacha.Nonce{}, text(n)); errno != api.ErrCount || len(out) != 0 {
				t.Errorf("%d bytes from the counter %d on: %d bytes, error %d", n, counter, len(out), errno)
			}
		}
	}
}

// P3.4: the stream of a stream.
func TestStreamTwice(t *testing.T) {
	for i, key := range keys() {
		nonce := nonces()[i]
		for _, n := range lengths {
			for _, counter := range []uint32{0, 1, last - 15} {
				once := stream(t, key, counter, nonce, text(n))
				if n > 30 && bytes.Equal(once, text(n)) {
					t.Errorf("%d bytes stay as they are", n)
				}
				if !bytes.Equal(stream(t, key, counter, nonce, once), text(n)) {
					t.Errorf("%d bytes from the counter %d on don't come back", n, counter)
				}
			}
		}
	}
}

// P3.4: the stream of a prefix.
func TestStreamOfAPrefix(t *testing.T) {
	b := text(300)
	for _, counter := range []uint32{0, 1, last - 4} {
		whole := stream(t, risingKey(), counter, chacha.Nonce{5}, b)
		for n := range len(b) + 1 {
			if !bytes.Equal(stream(t, risingKey(), counter, chacha.Nonce{5}, b[:n]), whole[:n]) {
				t.Errorf("the stream of %d bytes does not begin that of %d", n, len(b))
			}
		}
	}
}

// P3.4: a stream from a later block on.
func TestStreamFromALaterBlock(t *testing.T) {
	b := text(1000)
	for _, counter := range []uint32{0, 1, 250, last - 15} {
		whole := stream(t, risingKey(), counter, chacha.Nonce{5}, b)
		for i := range 16 {
			if !bytes.Equal(stream(t, risingKey(), counter+uint32(i), chacha.Nonce{5}, b[64*i:]), whole[64*i:]) {
				t.Errorf("from the counter %d on: block %d begins no stream of its own", counter, i)
			}
		}
	}
}

// P3.5: a quarter round can be taken back, and what is taken back comes again.
func TestQuarterIsInvertible(t *testing.T) {
	for _, w := range someWords(5000) {
		if got := unmix(chacha.Quarter(w)); got != w {
			t.Errorf("the quarter round of %08x is that of %08x", w, got)
		}
		if got := chacha.Quarter(unmix(w)); got != w {
			t.Errorf("no quarter round is %08x: %08x", w, got)
		}
	}
}

// P3.5: different words, most of them different in few bits.
func TestQuartersAreApart(t *testing.T) {
	seen := map[[4]uint32][4]uint32{}
	for _, w := range someWords(3000) {
		for bit := range 128 {
			near := w
			near[bit/32] ^= 1 << (bit % 32)
			q := chacha.Quarter(near)
			if other, there := seen[q]; there && other != near {
				t.Errorf("%08x and %08x have the same quarter round", near, other)
			}
			seen[q] = near
		}
	}
}

// P3.6: b is not changed, nor what stands behind it in its memory.
func TestArgumentsAreLeftAlone(t *testing.T) {
	for _, n := range lengths {
		b := text(n + 200)
		chacha.Stream(risingKey(), 1, chacha.Nonce{}, b[:n])
		chacha.Stream(risingKey(), last, chacha.Nonce{}, b[:n])
		if !bytes.Equal(b, text(n+200)) {
			t.Errorf("%d bytes: an argument was written", n)
		}
	}
}

// P3.6: an answer is new memory: what is done with it, or with b, later changes nothing else.
func TestAnswersAreNew(t *testing.T) {
	for _, n := range lengths {
		b := text(n)
		out := stream(t, risingKey(), 1, chacha.Nonce{}, b)
		want := bytes.Clone(out)
		clear(b)
		if !bytes.Equal(out, want) {
			t.Errorf("%d bytes: the answer hangs on the argument's memory", n)
		}
		clear(out[:cap(out)])
		if !bytes.Equal(b, make([]byte, n)) || !bytes.Equal(stream(t, risingKey(), 1, chacha.Nonce{}, text(n)), want) {
			t.Errorf("%d bytes: an answer that was written is not itself alone", n)
		}
	}
}
