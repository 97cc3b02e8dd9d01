package label_test

import (
	"fmt"
	"math"
	"regexp"
	"strconv"
	"strings"
	"testing"

	"redwax/api"
	"redwax/label"
)

// aText is what a label's text looks like: the numbers from 0 to 15, and those of at most 16 digits.
var aText = regexp.MustCompile(`\A(0|[1-9]|1[0-5]):(0|[1-9a-f][0-9a-f]{0,15})\z`)

// known are labels and their texts.
var known = []struct {
	label api.Label
	text  string
}{
	{api.Label{}, "0:0"},
	{api.Label{Level: 3, Comp: 31}, "3:1f"},
	{api.Label{Level: 15, Comp: math.MaxUint64}, "15:ffffffffffffffff"},
	{api.Label{Level: 15}, "15:0"},
	{api.Label{Comp: math.MaxUint64}, "0:ffffffffffffffff"},
	{api.Label{Level: 1, Comp: 1}, "1:1"},
	{api.Label{Level: 9, Comp: 9}, "9:9"},
	{api.Label{Level: 10, Comp: 10}, "10:a"},
	{api.Label{Level: 11, Comp: 0x10}, "11:10"},
	{api.Label{Level: 12, Comp: 0xff}, "12:ff"},
	{api.Label{Level: 13, Comp: 0x100}, "13:100"},
	{api.Label{Level: 14, Comp: 1<<63 - 1}, "14:7fffffffffffffff"},
	{api.Label{Level: 2, Comp: 1 << 63}, "2:8000000000000000"},
	{api.Label{Level: 4, Comp: 0x0123456789abcdef}, "4:123456789abcdef"},
	{api.Label{Level: 5, Comp: 0xfedcba9876543210}, "5:fedcba9876543210"},
}

// P5.4: Text and Parse of labels whose texts are known, the least and the greatest ones among them.
func TestKnownTexts(t *testing.T) {
	for _, c := range known {
		if got := label.Text(c.label); got != c.text {
			t.Errorf("Text(%v) = %q, not %q", c.label, got, c.text)
		}
		if got, errno := label.Parse(c.text); got != c.label || errno != api.OK {
			t.Errorf("Parse(%q) = %v, error %d", c.text, got, errno)
		}
	}
}

// P5.4: Text of all levels and of each number of digits.
func TestText(t *testing.T) {
	for level := range 16 {
		for bit := range 64 {
			for _, c := range []uint64{1 << bit, 1<<bit - 1, math.MaxUint64 << bit, 0xfedcba9876543210 >> bit} {
				want := fmt.Sprintf("%d:%x", level, c)
				if got := label.Text(api.Label{Level: level, Comp: c}); got != want {
					t.Errorf("Text({%d, %x}) = %q", level, c, got)
				}
			}
		}
	}
}

// P5.4: Text of labels that are not valid.
func TestTextOfNone(t *testing.T) {
	for _, level := range []int{math.MinInt, -16, -15, -1, 16, 17, 256, 1 << 32, math.MaxInt} {
		for _, c := range comps {
			if got := label.Text(api.Label{Level: level, Comp: c}); got != "?" {
				t.Errorf("Text({%d, %x}) = %q", level, c, got)
			}
		}
	}
}

// noTexts are strings that are no label's text.
var noTexts = []string{
	// empty; no colon, or another sign for it
	"", "0", "12", "f", "ab", "3 1f", "3;1f", "3.1f", "3,1f", "3-1f", "31f", "3/1f", "3：1f", "3\x001f",
	// two colons and more
	"::", ":::", "3::1f", "3:1f:", ":3:1f", "3:1:f", "1:2:3", "0:0:0", "0:0:", ":0:0",
	// nothing ahead of the colon or behind it
	":", ":0", ":1f", "0:", "3:", "15:",
	// leading zeros
	"00:0", "03:1f", "003:1f", "015:0", "0:00", "3:01", "3:01f", "3:001f", "00:00", "0:0ffffffffffffffff", "01:0", "0:000",
	// capital digits, letters that are none, prefixes of numbers
	"3:1F", "3:F", "3:A", "15:FFFFFFFFFFFFFFFF", "15:fffffffffffffffF", "3:g", "3:1g", "3:G", "a:0", "f:0", "A:0", "3:x",
	"3:0x1f", "0x3:1f", "3:0X1F", "3:x1f", "3:1_f", "1_0:0", "3:_1f", "3:1fh", "3:0b1", "3:0o7", "0b1:0", "0o7:0", "3:1e1h", "1e0:0", "3:1.0", "3.0:1",
	// signs
	"+3:1f", "-3:1f", "3:+1f", "3:-1f", "-0:0", "+0:0", "0:-0", "0:+0", "-1:0", "0:-1", "+:0", "-:0", "0:+", "0:-", "−1:0",
	// blanks
	" 3:1f", "3 :1f", "3: 1f", "3:1f ", "3:1 f", "1 0:0", "\t3:1f", "3:1f\n", "3:\t1f", "\n0:0", "0:0\r\n", " : ", " ", "3:1f\x00", "\x000:0", "0:0\u00a0", "\ufeff0:0",
	// Levels of 16 and more
	"16:0", "17:0", "19:0", "20:1f", "99:0", "100:0", "150:0", "256:0", "65536:0", "4294967296:0", "4294967299:1f",
	"9223372036854775807:0", "9223372036854775808:0", "18446744073709551615:0", "18446744073709551616:0", "18446744073709551619:1f", "-9223372036854775808:0",
	// more than 16 digits behind the colon
	"0:10000000000000000", "3:1ffffffffffffffff", "15:fffffffffffffffff", "0:00000000000000000", "0:00000000000000001", "3:10000000000000001f", "0:18446744073709551616",
	// what Text returns for labels that are not valid, and others
	"?", "?:?", "?:0", "0:?", "public", "top", "{3 1f}", "3:1f,0:0", "3:1f 0:0", "(3:1f)", "\"0:0\"",
	// digits that are none of the ten and six; bytes that are no runes
	"３:1f", "3:１f", "٣:1f", "²:0", "0:½", "\xff:0", "0:\xff", "0:0\x80", "\xc3", "0:0\xe2\x82",
}

// P5.4: Parse of strings that are no label's text.
func TestParseOfNone(t *testing.T) {
	for _, s := range noTexts {
		if got, errno := label.Parse(s); got != (api.Label{}) || errno != api.ErrForm {
			t.Errorf("Parse(%q) = %v, error %d", s, got, errno)
		}
	}
}

// P5.4: Parse of long strings.
func TestParseOfManyBytes(t *testing.T) {
	for _, n := range []int{17, 20, 64, 65, 1000, 1 << 20} {
		for _, digit := range []string{"0", "1", "f", ":", " ", "\x00", "-"} {
			many := strings.Repeat(digit, n)
			for _, s := range []string{many, many + ":0", "0:" + many, many + ":" + many, "0:" + many + "1", many + "1:0"} {
				if got, errno := label.Parse(s); got != (api.Label{}) || errno != api.ErrForm {
					t.Errorf("Parse of %d times %q is %v, error %d", n, digit, got, errno)
				}
			}
		}
	}
}

// parsesRight checks what Parse returns for s against what a text looks like.
func parsesRight(t *testing.T, s string) {
	t.Helper()
	got, errno := label.Parse(s)
	m := aText.FindStringSubmatch(s)
	if m == nil {
		if got != (api.Label{}) || errno != api.ErrForm {
			t.Fatalf("Parse(%q) = %v, error %d", s, got, errno)
		}
		return
	}
	level, _ := strconv.Atoi(m[1])
	comp, _ := strconv.ParseUint(m[2], 16, 64)
	if got != (api.Label{Level: level, Comp: comp}) || errno != api.OK || label.Text(got) != s {
		t.Fatalf("Parse(%q) = %v, error %d, of which Text is %q", s, got, errno, label.Text(got))
	}
}

// P5.4, P5.7: all strings of at most five of some bytes.
func TestParseOfAllShortStrings(t *testing.T) {
	const some = ":0169afFg+-_ "
	var try func(s string, more int)
	try = func(s string, more int) {
		parsesRight(t, s)
		for i := range len(some) * min(more, 1) {
			try(s+some[i:i+1], more-1)
		}
	}
	try("", 5)
}

// P5.4, P5.7: each single byte, and each pair.
func TestParseOfAllBytes(t *testing.T) {
	for i := range 256 {
		parsesRight(t, string([]byte{byte(i)}))
		for j := range 256 {
			parsesRight(t, string([]byte{byte(i), byte(j)}))
			parsesRight(t, string([]byte{byte(i), ':', byte(j)}))
			parsesRight(t, string([]byte{'1', byte(i), ':', 'f', byte(j)}))
		}
	}
}

// P5.7: Parse of the text of a label is that label.
func TestParseOfTexts(t *testing.T) {
	for _, a := range validLabels() {
		if got, errno := label.Parse(label.Text(a)); got != a || errno != api.OK {
			t.Errorf("Parse of the text of %v is %v, error %d", a, got, errno)
		}
	}
	for _, a := range allLabels() {
		if got, errno := label.Parse(label.Text(a)); !isValid(a) && (got != (api.Label{}) || errno != api.ErrForm) {
			t.Errorf("Parse of the text of %v, which is not valid, is %v, error %d", a, got, errno)
		}
	}
}

// P5.7: strings that differ from a text in one byte, or have one more or one less, are that of
// another label, or of none.
func TestParseAroundTexts(t *testing.T) {
	for _, c := range known {
		s := c.text
		for i := range len(s) + 1 {
			for b := range 256 {
				parsesRight(t, s[:i]+string([]byte{byte(b)})+s[i:])
				if i < len(s) {
					parsesRight(t, s[:i]+string([]byte{byte(b)})+s[i+1:])
				}
			}
			if i < len(s) {
				parsesRight(t, s[:i]+s[i+1:])
			}
		}
	}
}

// P5.7: different labels have different texts.
func TestTextsAreApart(t *testing.T) {
	seen := map[string]api.Label{}
	for _, a := range validLabels() {
		s := label.Text(a)
		if b, there := seen[s]; there {
			t.Errorf("%v and %v have the text %q", a, b, s)
		}
		seen[s] = a
	}
}
