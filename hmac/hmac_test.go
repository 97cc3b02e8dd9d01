package hmac_test

import (
	"bytes"
	stdhmac "crypto/hmac"
	"crypto/sha256"
	"encoding/binary"
	"strings"
	"testing"

	"redwax/api"
	"redwax/hmac"
	"redwax/sha"
)

// text returns n bytes that differ along the way.
func text(n int) []byte {
	b := make([]byte, n)
	for i := range b {
		b[i] = byte(i*i + 7*i + n)
	}
	return b
}

// keyLengths are none, fewer than 64, 64 and more than 64, and those around the length of a digest.
var keyLengths = []int{0, 1, 4, 20, 31, 32, 33, 55, 56, 62, 63, 64, 65, 66, 100, 127, 128, 129, 131, 1000}

var textLengths = []int{0, 1, 8, 28, 31, 32, 54, 55, 56, 63, 64, 65, 119, 120, 127, 128, 129, 1000, 70000}

// tag works a tag out by the words of the chapter.
func tag(key, message []byte) api.Hash {
	block := make([]byte, 64)
	if len(key) > 64 {
		h := sha.Sum(key)
		copy(block, h[:])
	} else {
		copy(block, key)
	}
	var inner, outer []byte
	for _, b := range block {
		inner, outer = append(inner, b^0x36), append(outer, b^0x5c)
	}
	within := sha.Sum(append(inner, message...))
	return sha.Sum(append(outer, within[:]...))
}

// encoding is the canonical encoding of a name and its parts.
func encoding(name string, parts ...[]byte) []byte {
	b := binary.BigEndian.AppendUint32(nil, uint32(len(name)))
	b = append(b, name...)
	for _, p := range parts {
		b = binary.BigEndian.AppendUint32(b, uint32(len(p)))
		b = append(b, p...)
	}
	return b
}

// P2.1: the chapter's examples.
func TestExamples(t *testing.T) {
	for _, c := range []struct{ key, message, want string }{
		{strings.Repeat("\x0b", 20), "Hi There", "b0344c61d8db38535ca8afceaf0bf12b881dc200c9833da726e9376c2e32cff7"},
		{"Jefe", "what do ya want for nothing?", "5bdcc146bf60754e6a042426089575c75a003f089d2739839dec58b964ec3843"},
	} {
		if got := sha.Text(hmac.Sum([]byte(c.key), []byte(c.message))); got != c.want {
			t.Errorf("the tag of %q under %q is %s, not %s", c.message, c.key, got, c.want)
		}
	}
}

// P2.1: keys and texts of all lengths at which something changes.
func TestSum(t *testing.T) {
	for _, k := range keyLengths {
		for _, n := range textLengths {
			key, message := text(k), text(n)
			got := hmac.Sum(key, message)
			h := stdhmac.New(sha256.New, key)
			h.Write(message)
			if want := h.Sum(nil); !bytes.Equal(got[:], want) {
				t.Errorf("key of %d bytes, text of %d: %x, not %x", k, n, got, want)
			}
			if want := tag(key, message); got != want {
				t.Errorf("key of %d bytes, text of %d: %x, by the chapter's words %x", k, n, got, want)
			}
		}
	}
}

// P2.1: no key and no text are there as nil, too.
func TestSumOfNothing(t *testing.T) {
	want := tag([]byte{}, []byte{})
	for _, key := range [][]byte{nil, {}} {
		for _, message := range [][]byte{nil, {}} {
			if got := hmac.Sum(key, message); got != want {
				t.Errorf("the tag of no bytes under no key is %x, not %x", got, want)
			}
		}
	}
}

// P2.1: each byte of a key and each byte of a text counts.
func TestSumHangsOnEachByte(t *testing.T) {
	for _, n := range []int{1, 63, 64, 65, 130} {
		key, message := text(n), text(n)
		whole := hmac.Sum(key, message)
		for i := range n {
			key[i] ^= 1
			if hmac.Sum(key, message) == whole {
				t.Errorf("byte %d of a key of %d does not count", i, n)
			}
			key[i] ^= 1
			message[i] ^= 128
			if hmac.Sum(key, message) == whole {
				t.Errorf("byte %d of a text of %d does not count", i, n)
			}
			message[i] ^= 128
		}
	}
}

// P2.2: equal texts.
func TestEqual(t *testing.T) {
	for _, n := range []int{0, 1, 2, 31, 32, 33, 64, 255, 256, 257, 5000} {
		a := text(n)
		if !hmac.Equal(a, bytes.Clone(a)) || !hmac.Equal(a, a) {
			t.Errorf("%d equal bytes are told apart", n)
		}
	}
	for _, a := range [][]byte{nil, {}} {
		for _, b := range [][]byte{nil, {}, text(5)[:0]} {
			if !hmac.Equal(a, b) {
				t.Error("no bytes are told apart from no bytes")
			}
		}
	}
}

// P2.2: one byte differs, in any of its bits.
func TestEqualTellsOneByte(t *testing.T) {
	for _, n := range []int{1, 2, 31, 32, 33, 64, 300} {
		a, b := text(n), text(n)
		for i := range n {
			for bit := range 8 {
				b[i] ^= 1 << bit
				if hmac.Equal(a, b) || hmac.Equal(b, a) {
					t.Errorf("%d bytes: bit %d of byte %d is not looked at", n, bit, i)
				}
				b[i] ^= 1 << bit
			}
		}
	}
}

// P2.2: differences don't make up for each other, however many there are.
func TestEqualTellsManyBytes(t *testing.T) {
	a := make([]byte, 256)
	for _, d := range []byte{1, 2, 0x80, 0xff} {
		for n := 1; n <= len(a); n++ {
			b := append(bytes.Repeat([]byte{d}, n), a[n:]...)
			if hmac.Equal(a, b) || hmac.Equal(b, a) {
				t.Errorf("%d bytes that differ by %x are not told", n, d)
			}
		}
	}
	if hmac.Equal([]byte("abc"), []byte("cba")) || hmac.Equal([]byte{1, 255}, []byte{0, 0}) {
		t.Error("other bytes with the same sum are not told")
	}
}

// P2.2: texts of unlike length, also where one begins the other or what is more is zero.
func TestEqualTellsLengths(t *testing.T) {
	for n := range 70 {
		for _, m := range []int{1, 2, 32, 64, 256} {
			a, b := text(100)[:n], text(100)[:n]
			longer := append(bytes.Clone(a), make([]byte, m)...)
			if hmac.Equal(a, longer) || hmac.Equal(longer, b) {
				t.Errorf("%d bytes are not told apart from the same and %d zeros", n, m)
			}
		}
		if a := text(70); hmac.Equal(a[:n], a) || hmac.Equal(a, a[:n]) {
			t.Errorf("the first %d bytes of 70 are not told apart from them", n)
		}
	}
	if hmac.Equal(nil, []byte{0}) || hmac.Equal([]byte{0}, nil) || hmac.Equal([]byte{0}, []byte{}) {
		t.Error("no bytes are not told apart from a zero")
	}
}

// P2.3: no part, empty parts, several parts.
func TestDerive(t *testing.T) {
	keys := []api.Hash{{}, sha.Sum([]byte("key")), {31: 1}, api.Hash(bytes.Repeat([]byte{255}, 32))}
	names := []string{"", "seal", "a\x00b", "é\xff", strings.Repeat("n", 255), strings.Repeat("n", 256), strings.Repeat("n", 65536)}
	lists := [][][]byte{
		nil, {}, {nil}, {{}}, {nil, nil}, {{}, text(3), {}},
		{text(1)}, {text(20), text(32), text(64)}, {text(255), text(256), text(65535), text(65536)}, make([][]byte, 40),
	}
	for _, key := range keys {
		for _, name := range names {
			for i, parts := range lists {
				want := tag(key[:], encoding(name, parts...))
				if got := hmac.Derive(key, name, parts...); got != want {
					t.Errorf("name of %d bytes, parts %d: %x, not %x", len(name), i, got, want)
				}
			}
		}
	}
}

// P2.3: a length has four bytes, and the greatest comes first.
func TestDeriveLengths(t *testing.T) {
	key := sha.Sum(nil)
	part := make([]byte, 1<<24+3<<16+5<<8+7)
	message := append([]byte{0, 0, 0, 1, 'n', 1, 3, 5, 7}, part...)
	if got, want := hmac.Derive(key, "n", part), hmac.Sum(key[:], message); got != want {
		t.Errorf("a part of %d bytes: %x, not %x", len(part), got, want)
	}
	message = append(append([]byte{1, 3, 5, 7}, part...), 0, 0, 0, 0)
	if got, want := hmac.Derive(key, string(part), nil), hmac.Sum(key[:], message); got != want {
		t.Errorf("a name of %d bytes: %x, not %x", len(part), got, want)
	}
}

// P2.4: keys of at most 64 bytes.
func TestZerosBehindAKey(t *testing.T) {
	for n := range 65 {
		key := text(n)
		for m := n; m <= 64; m++ {
			longer := append(bytes.Clone(key), make([]byte, m-n)...)
			if hmac.Sum(key, text(70)) != hmac.Sum(longer, text(70)) {
				t.Errorf("a key of %d bytes has other tags with zeros to %d", n, m)
			}
		}
		longer := append(bytes.Clone(key), make([]byte, 65-n)...)
		if hmac.Sum(key, nil) == hmac.Sum(longer, nil) {
			t.Errorf("a key of %d bytes has the same tag with zeros to 65", n)
		}
	}
}

// P2.4: keys of more than 64 bytes, and none of at most 64.
func TestDigestForAKey(t *testing.T) {
	for _, n := range keyLengths {
		key := text(n)
		digest := sha.Sum(key)
		for _, m := range []int{0, 28, 64, 100} {
			same := hmac.Sum(key, text(m)) == hmac.Sum(digest[:], text(m))
			if same != (n > 64) {
				t.Errorf("a key of %d bytes and its digest, a text of %d: same tag: %t", n, m, same)
			}
		}
	}
}

// P2.5: the tags here are unlike because the encodings are.
func TestEncodingsAreApart(t *testing.T) {
	b := func(s string) []byte { return []byte(s) }
	key := sha.Sum([]byte("key"))
	seen := map[api.Hash]int{}
	for i, c := range []struct {
		name  string
		parts [][]byte
	}{
		{"", nil}, {"", [][]byte{nil}}, {"", [][]byte{nil, nil}}, {"", [][]byte{b("abc")}}, {"", [][]byte{b("abc"), nil}},
		{"", [][]byte{nil, b("abc")}}, {"", [][]byte{b("a"), b("bc")}}, {"", [][]byte{b("ab"), b("c")}},
		{"abc", nil}, {"abc", [][]byte{nil}}, {"ab", [][]byte{b("c")}}, {"a", [][]byte{b("bc")}}, {"a", [][]byte{b("b"), b("c")}},
		{"a", [][]byte{b("c"), b("b")}}, {"a", [][]byte{b("b"), nil, b("c")}}, {"a", [][]byte{nil, b("b"), b("c")}},
		{"abd", nil}, {"a", [][]byte{b("bd")}}, {"a", [][]byte{b("b"), b("d")}},
		{"", [][]byte{{0}}}, {"", [][]byte{{0, 0, 0, 0}}}, {"\x00", nil}, {"\x00\x00\x00\x00", nil}, {"", make([][]byte, 3)},
		{"a\x00\x00\x00\x01b", nil}, {"a", [][]byte{b("b\x00\x00\x00\x01c")}}, {string(encoding("a", b("b"))), nil},
	} {
		h := hmac.Derive(key, c.name, c.parts...)
		if j, there := seen[h]; there {
			t.Errorf("cases %d and %d come out alike", j, i)
		}
		seen[h] = i
	}
}

// P2.5: the same bytes, split at any two places.
func TestSplitsAreApart(t *testing.T) {
	key := sha.Sum(nil)
	whole := make([]byte, 12)
	seen := map[api.Hash]bool{}
	for i := range len(whole) + 1 {
		for j := i; j <= len(whole); j++ {
			seen[hmac.Derive(key, string(whole[:i]), whole[i:j], whole[j:])] = true
		}
	}
	if want := 13 * 14 / 2; len(seen) != want {
		t.Errorf("%d splits of the same bytes have %d keys", want, len(seen))
	}
}

// No argument is changed; nor is what stands behind it in its memory.
func TestArgumentsAreLeftAlone(t *testing.T) {
	for _, n := range []int{0, 1, 20, 63, 64, 65, 130} {
		first, second := text(n+200), text(n+201)
		hmac.Sum(first[:n], second[:n])
		hmac.Sum(first[:n], first[:n])
		hmac.Equal(first[:n], second[:n])
		parts := [][]byte{first[:n], second[:n], first, second}
		hmac.Derive(api.Hash{}, "name", parts[:2]...)
		if !bytes.Equal(first, text(n+200)) || !bytes.Equal(second, text(n+201)) {
			t.Errorf("%d bytes: an argument was written", n)
		}
		for i, l := range []int{n, n, n + 200, n + 201} {
			if len(parts[i]) != l {
				t.Errorf("part %d has %d bytes now, not %d", i, len(parts[i]), l)
			}
		}
	}
}

// No argument is kept: what is done with it later changes no answer.
func TestArgumentsAreNotKept(t *testing.T) {
	key, message := text(40), text(50)
	tagged, derived := hmac.Sum(key, message), hmac.Derive(api.Hash{}, "name", message)
	clear(key)
	clear(message)
	if tagged != hmac.Sum(text(40), text(50)) || derived != hmac.Derive(api.Hash{}, "name", text(50)) {
		t.Error("an argument was kept")
	}
	if hmac.Sum(key, message) != tag(make([]byte, 40), make([]byte, 50)) {
		t.Error("an earlier answer was given")
	}
}
