package seal_test

import (
	"crypto/hmac"
	"crypto/sha256"
	"encoding/binary"
	"encoding/hex"
	"slices"

	"redwax/api"
	"redwax/chacha"
	"redwax/seal"
)

// bucketOf is the bucket of a length, by the chapter's words; 0 if there is none.
func bucketOf(n int) int {
	for _, b := range buckets {
		if n >= 0 && b >= n+4 {
			return b
		}
	}
	return 0
}

// sealedByWords is a sealed record, worked out by the chapter's words.
func sealedByWords(key api.Hash, p seal.Place, record []byte) []byte {
	plain := make([]byte, bucketOf(len(record)))
	binary.BigEndian.PutUint32(plain, uint32(len(record)))
	copy(plain[4:], record)
	return forged(key, p, plain)
}

// forged is a padded plaintext, right or wrong, as it would be sealed: its tag is that of its body.
func forged(key api.Hash, p seal.Place, plain []byte) []byte {
	var nonce chacha.Nonce
	binary.BigEndian.PutUint32(nonce[:], p.Epoch)
	binary.BigEndian.PutUint64(nonce[4:], p.Position)
	body, _ := chacha.Stream(api.Hash(derived(key, "encrypt", p.Context)), 1, nonce, plain)

	tagged := binary.BigEndian.AppendUint32(nil, uint32(len(p.Context)))
	tagged = append(tagged, p.Context...)
	tagged = binary.BigEndian.AppendUint64(tagged, p.Position)
	tagged = binary.BigEndian.AppendUint32(tagged, p.Epoch)
	tagged = append(tagged, body...)
	return slices.Concat(nonce[:4], body, tag(derived(key, "tag", p.Context), tagged))
}

// derived is the key for a name and a context.
func derived(key api.Hash, name string, context []byte) []byte {
	encoded := binary.BigEndian.AppendUint32(nil, uint32(len(name)))
	encoded = append(encoded, name...)
	encoded = binary.BigEndian.AppendUint32(encoded, uint32(len(context)))
	return tag(key[:], append(encoded, context...))
}

// tag is the tag of a message under a key.
func tag(key, message []byte) []byte {
	h := hmac.New(sha256.New, key)
	h.Write(message)
	return h.Sum(nil)
}

// digest is that of some bytes, as a text.
func digest(b []byte) string {
	d := sha256.Sum256(b)
	return hex.EncodeToString(d[:])
}

// rising is the n bytes of which the known sealed records were made.
func rising(n int) []byte {
	b := make([]byte, n)
	for i := range b {
		b[i] = byte(7*i + i/256 + 1)
	}
	return b
}

// upTo is the numbers below n.
func upTo(n int) []int {
	list := make([]int, n)
	for i := range list {
		list[i] = i
	}
	return list
}

// flipped is b with one bit another.
func flipped(b []byte, bit int) []byte {
	b = slices.Clone(b)
	b[bit/8] ^= 1 << (bit % 8)
	return b
}

// reversed is b from its end on.
func reversed(b []byte) []byte {
	b = slices.Clone(b)
	slices.Reverse(b)
	return b
}

// spare is what stands behind a roomy argument.
var spare = []byte{0xa5, 0x5a, 0xa5, 0x5a, 0xa5, 0x5a, 0xa5, 0x5a}

// roomy is b, with other bytes behind it in its memory.
func roomy(b []byte) []byte {
	all := slices.Concat(b, spare)
	return all[:len(b):len(all)]
}
