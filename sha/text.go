package sha

import (
	"strings"

	"redwax/api"
)

const digits = "0123456789abcdef"

// Text returns the text of h (P1.4).
func Text(h api.Hash) string {
	text := make([]byte, 0, 2*len(h))
	for _, b := range h {
		text = append(text, digits[b>>4], digits[b&15])
	}
	return string(text)
}

// Of returns the digest whose text is s, and whether there is one (P1.4).
func Of(s string) (api.Hash, bool) {
	var h api.Hash
	if len(s) != 2*len(h) {
		return api.Hash{}, false
	}
	for i := range h {
		high, low := digit(s[2*i]), digit(s[2*i+1])
		if high < 0 || low < 0 {
			return api.Hash{}, false
		}
		h[i] = byte(high<<4 | low)
	}
	return h, true
}

// digit returns the value of a hexadecimal digit, or -1: no capital letter is one.
func digit(c byte) int {
	return strings.IndexByte(digits, c)
}
