package sha_test

import (
	"bytes"
	"crypto/sha256"
	"encoding/binary"
	"math"
	"math/big"
	"math/bits"
	"strings"
	"testing"

	"redwax/api"
	"redwax/sha"
)

// text returns n bytes that differ along the way.
func text(n int) []byte {
	b := make([]byte, n)
	for i := range b {
		b[i] = byte(i*i + 7*i + n)
	}
	return b
}

// edges are the lengths around which the padding changes, and some that are far from these.
func edges() []int {
	l := []int{1000, 4095, 4096, 100000}
	for n := range 200 {
		l = append(l, n)
	}
	return l
}

func primes(n int) []int64 {
	var l []int64
	for p := int64(2); len(l) < n; p++ {
		if big.NewInt(p).ProbablyPrime(10) {
			l = append(l, p)
		}
	}
	return l
}

// rootBits returns the first 32 bits of the fractional part of a root of p: the greatest x with x^power <= p 2^(32 power).
func rootBits(p int64, power int64) uint32 {
	bound := new(big.Int).Lsh(big.NewInt(p), uint(32*power))
	x := new(big.Int)
	for bit := 40; bit >= 0; bit-- {
		x.SetBit(x, bit, 1)
		if new(big.Int).Exp(x, big.NewInt(power), nil).Cmp(bound) > 0 {
			x.SetBit(x, bit, 0)
		}
	}
	return uint32(x.Uint64())
}

// mixed is the compression function, with constants that are worked out anew.
func mixed(w sha.Words, block [64]byte) sha.Words {
	r := func(x uint32, n int) uint32 { return bits.RotateLeft32(x, 32-n) }
	var s [64]uint32
	for t := range s {
		if t < 16 {
			s[t] = binary.BigEndian.Uint32(block[4*t:])
			continue
		}
		x, y := s[t-15], s[t-2]
		s[t] = s[t-16] + (r(x, 7) ^ r(x, 18) ^ x/8) + s[t-7] + (r(y, 17) ^ r(y, 19) ^ y/1024)
	}
	l := w
	for i, p := range primes(64) {
		u := l[7] + (r(l[4], 6) ^ r(l[4], 11) ^ r(l[4], 25)) + (l[4]&l[5] ^ ^l[4]&l[6]) + rootBits(p, 3) + s[i]
		v := (r(l[0], 2) ^ r(l[0], 13) ^ r(l[0], 22)) + (l[0]&l[1] ^ l[0]&l[2] ^ l[1]&l[2])
		l = sha.Words{u + v, l[0], l[1], l[2], l[3] + u, l[4], l[5], l[6]}
	}
	for i := range l {
		l[i] += w[i]
	}
	return l
}

// P1.1: Start.
func TestStart(t *testing.T) {
	got := sha.Start()
	for i, p := range primes(8) {
		if want := rootBits(p, 2); got[i] != want {
			t.Errorf("word %d is %08x, not %08x", i, got[i], want)
		}
	}
	if got[0] != 0x6a09e667 || got[7] != 0x5be0cd19 {
		t.Errorf("the first and last words are %08x and %08x", got[0], got[7])
	}
}

// P1.1: Mix.
func TestMix(t *testing.T) {
	states := []sha.Words{{}, sha.Start(), {math.MaxUint32, 1, 2, 3, math.MaxUint32, 5, 6, math.MaxUint32}}
	blocks := [][64]byte{{}, [64]byte(text(64)), [64]byte(bytes.Repeat([]byte{255}, 64)), {63: 1}, {0: 128}}
	for i, w := range states {
		for j, block := range blocks {
			if got, want := sha.Mix(w, block), mixed(w, block); got != want {
				t.Errorf("state %d, block %d: %08x, not %08x", i, j, got, want)
			}
		}
	}
}

// P1.1: Behind.
func TestBehind(t *testing.T) {
	ns := append(edges(), 1<<29-1, 1<<29, 1<<56, 1<<56+1, 1<<60-1, 1<<60)
	for _, n := range ns {
		p := sha.Behind(n)
		zeros := 0
		for (n+1+zeros+8)%64 != 0 {
			zeros++
		}
		want := append([]byte{128}, make([]byte, zeros)...)
		want = binary.BigEndian.AppendUint64(want, 8*uint64(n))
		if !bytes.Equal(p, want) {
			t.Errorf("Behind(%d) = %x, not %x", n, p, want)
		}
	}
	for n, want := range map[int]int{0: 64, 55: 9, 56: 72, 63: 65, 64: 64} {
		if got := len(sha.Behind(n)); got != want {
			t.Errorf("Behind(%d) has %d bytes, not %d", n, got, want)
		}
	}
	if p := sha.Behind(3); p[len(p)-1] != 24 {
		t.Errorf("the last byte of Behind(3) is %d", p[len(p)-1])
	}
}

// P1.1: Behind, out of its bounds.
func TestBehindOutOfBounds(t *testing.T) {
	for _, n := range []int{-1, -64, math.MinInt, 1<<60 + 1, 1<<61 + 55, math.MaxInt} {
		if p := sha.Behind(n); len(p) != 0 {
			t.Errorf("Behind(%d) = %x", n, p)
		}
	}
}

// P1.2.
func TestSum(t *testing.T) {
	for s, want := range map[string]string{
		"":    "e3b0c442 98fc1c14 9afbf4c8 996fb924 27ae41e4 649b934c a495991b 7852b855",
		"abc": "ba7816bf 8f01cfea 414140de 5dae2223 b00361a3 96177a9c b410ff61 f20015ad",
		"abcdbcdecdefdefgefghfghighijhijkijkljklmklmnlmnomnopnopq": "248d6a61 d20638b8 e5c02693 0c3e6039 a33ce459 64ff2167 f6ecedd4 19db06c1",
		strings.Repeat("a", 1000000):                               "cdc76e5c 9914fb92 81a1c7e2 84d73e67 f1809a48 a497200e 046d39cc c7112cd0",
	} {
		if got := sha.Text(sha.Sum([]byte(s))); got != strings.ReplaceAll(want, " ", "") {
			t.Errorf("Sum of %d bytes is %s", len(s), got)
		}
	}
	for _, n := range edges() {
		b := text(n)
		if got, want := sha.Sum(b), sha256.Sum256(b); got != want {
			t.Errorf("Sum of %d bytes is %x, not %x", n, got, want)
		}
	}
	if sha.Sum(nil) != sha.Sum([]byte{}) {
		t.Error("Sum tells nil from no bytes")
	}
}

// resumed works Resume out of Mix and Behind.
func resumed(h api.Hash, n int, more []byte) api.Hash {
	total := n + len(sha.Behind(n)) + len(more)
	return folded(wordsOf(h), append(bytes.Clone(more), sha.Behind(total)...))
}

func wordsOf(h api.Hash) sha.Words {
	var w sha.Words
	for i := range w {
		w[i] = binary.BigEndian.Uint32(h[4*i:])
	}
	return w
}

// folded mixes the blocks of b into w.
func folded(w sha.Words, b []byte) api.Hash {
	for ; len(b) > 0; b = b[64:] {
		w = sha.Mix(w, [64]byte(b))
	}
	var h []byte
	for _, x := range w {
		h = binary.BigEndian.AppendUint32(h, x)
	}
	return api.Hash(h)
}

// P1.3: whatever the digest, and whatever n within its bounds.
func TestResume(t *testing.T) {
	digests := []api.Hash{{}, sha.Sum(nil), sha.Sum([]byte("abc")), api.Hash(bytes.Repeat([]byte{255}, 32))}
	for _, h := range digests {
		for _, n := range []int{0, 1, 55, 56, 63, 64, 1000, 1 << 40, 1<<56 - 1, 1 << 56} {
			for _, m := range []int{0, 1, 55, 56, 63, 64, 65, 128, 300} {
				got, e := sha.Resume(h, n, text(m))
				if want := resumed(h, n, text(m)); e != api.OK || got != want {
					t.Errorf("Resume(%x, %d, %d bytes) = %x, %d, not %x", h, n, m, got, e, want)
				}
			}
		}
	}
}

// P1.3: no n out of its bounds.
func TestResumeOutOfBounds(t *testing.T) {
	for _, n := range []int{-1, -64, math.MinInt, 1<<56 + 1, 1 << 60, math.MaxInt} {
		h, e := sha.Resume(sha.Sum(nil), n, []byte("more"))
		if e != api.ErrArg || h != (api.Hash{}) {
			t.Errorf("Resume at %d = %x, %d", n, h, e)
		}
	}
}

// P1.4: Text.
func TestText(t *testing.T) {
	h := api.Hash{0: 0x0f, 1: 0xa0, 2: 0x9b, 31: 0xfe}
	want := "0fa09b" + strings.Repeat("0", 56) + "fe"
	if got := sha.Text(h); got != want {
		t.Errorf("Text = %s, not %s", got, want)
	}
	if got := sha.Text(api.Hash{}); got != strings.Repeat("0", 64) {
		t.Errorf("Text of the zero hash = %s", got)
	}
}

// P1.4: Of, for texts.
func TestOf(t *testing.T) {
	h, ok := sha.Of("0fa09b" + strings.Repeat("0", 56) + "fe")
	if want := (api.Hash{0: 0x0f, 1: 0xa0, 2: 0x9b, 31: 0xfe}); h != want || !ok {
		t.Errorf("Of = %x, %t", h, ok)
	}
	if h, ok := sha.Of(strings.Repeat("0", 64)); h != (api.Hash{}) || !ok {
		t.Errorf("Of the zero hash's text = %x, %t", h, ok)
	}
}

// P1.4: Of, for strings that are no digest's text.
func TestOfRefuses(t *testing.T) {
	whole := sha.Text(sha.Sum([]byte("abc")))
	wrong := []string{"", "0", whole[:62], whole[:63], whole + "0", whole + "00", whole + whole, whole + "\n",
		" " + whole[1:], whole[:63] + " ", "0x" + whole[2:], strings.ToUpper(whole), strings.Repeat("é", 32)}
	for _, s := range wrong {
		if h, ok := sha.Of(s); ok || h != (api.Hash{}) {
			t.Errorf("Of(%q) = %x, %t", s, h, ok)
		}
	}
	for c := range 256 {
		for _, at := range []int{0, 1, 31, 62, 63} {
			b := []byte(whole)
			b[at] = byte(c)
			h, ok := sha.Of(string(b))
			if want := strings.IndexByte("0123456789abcdef", byte(c)) >= 0; ok != want || !ok && h != (api.Hash{}) {
				t.Errorf("Of with the byte %d at %d = %x, %t", c, at, h, ok)
			}
		}
	}
}

// P1.5.
func TestSumIsAFold(t *testing.T) {
	for _, n := range edges() {
		b := text(n)
		if got, want := sha.Sum(b), folded(sha.Start(), append(bytes.Clone(b), sha.Behind(n)...)); got != want {
			t.Errorf("%d bytes: Sum is %x, the fold %x", n, got, want)
		}
	}
}

// P1.6.
func TestLengthExtension(t *testing.T) {
	for _, n := range edges() {
		for _, m := range []int{0, 1, 55, 56, 63, 64, 129} {
			x, more := text(n), text(m)
			whole := append(append(bytes.Clone(x), sha.Behind(n)...), more...)
			if h, e := sha.Resume(sha.Sum(x), n, more); e != api.OK || h != sha.Sum(whole) {
				t.Errorf("%d bytes and %d more: %x, %d", n, m, h, e)
			}
		}
	}
}

// P1.7.
func TestTextAndOfAreInverse(t *testing.T) {
	for c := range 256 {
		h := api.Hash(bytes.Repeat([]byte{byte(c)}, 32))
		h[c%32] = byte(c * 31)
		if back, ok := sha.Of(sha.Text(h)); back != h || !ok {
			t.Errorf("Of(Text(%x)) = %x, %t", h, back, ok)
		}
		s := sha.Text(sha.Sum([]byte{byte(c)}))
		if back, _ := sha.Of(s); sha.Text(back) != s {
			t.Errorf("Text(Of(%s)) = %s", s, sha.Text(back))
		}
	}
}

// P1.8: what stands behind a slice in its memory is not written either.
func TestArgumentsAreLeftAlone(t *testing.T) {
	for _, n := range []int{0, 1, 55, 56, 63, 64, 130} {
		memory := text(n + 200)
		before := bytes.Clone(memory)
		sha.Sum(memory[:n])
		sha.Resume(sha.Sum(nil), n, memory[:n])
		if !bytes.Equal(memory, before) {
			t.Errorf("%d bytes: an argument was written", n)
		}
	}
}

// P1.8: an answer that is written over changes no later one.
func TestAnswersAreNew(t *testing.T) {
	first := sha.Behind(5)
	clear(first[:cap(first)])
	if second := sha.Behind(5); second[0] != 128 || second[len(second)-1] != 40 {
		t.Errorf("Behind gave memory out twice: %x", second)
	}
	w := sha.Start()
	clear(w[:])
	if sha.Start() == w {
		t.Error("Start gave memory out twice")
	}
	b := text(70)
	h := sha.Sum(b)
	clear(b)
	if h != sha.Sum(text(70)) {
		t.Error("Sum kept its argument")
	}
}

// P1.8: nothing that can be handed in makes a call panic.
func TestNoPanic(t *testing.T) {
	for _, n := range []int{math.MinInt, -1, 0, 1, 1 << 56, 1 << 60, math.MaxInt} {
		sha.Behind(n)
		sha.Resume(api.Hash{}, n, nil)
	}
	sha.Mix(sha.Words{}, [64]byte{})
	sha.Sum(nil)
	for _, s := range []string{"", "\x00", strings.Repeat("\xff", 64), strings.Repeat("0", 1000)} {
		sha.Of(s)
	}
}
