package label

import (
	"strconv"
	"strings"

	"redwax/api"
)

const (
	separator = ":"
	noText    = "?"

	compBase = 16
	compBits = 64
)

// Text returns the text of a, or ? if a is not valid (P5.4).
func Text(a api.Label) string {
	if Check(a) != api.OK {
		return noText
	}
	return strconv.Itoa(a.Level) + separator + strconv.FormatUint(a.Comp, compBase)
}

// Parse returns the label whose text is s (P5.4). What strconv reads beyond that, such as leading
// zeros, signs, capital digits and levels that are not valid, is found out by writing the label
// again: the text is not the same then.
func Parse(s string) (api.Label, api.Errno) {
	level, comp, _ := strings.Cut(s, separator)
	l, ok := labelOf(level, comp)
	if !ok || Text(l) != s {
		return api.Label{}, api.ErrForm
	}
	return l, api.OK
}

// labelOf returns the label whose numbers strconv reads in level and comp, if it reads any.
func labelOf(level, comp string) (api.Label, bool) {
	n, err := strconv.Atoi(level)
	if err != nil {
		return api.Label{}, false
	}
	c, err := strconv.ParseUint(comp, compBase, compBits)
	if err != nil {
		return api.Label{}, false
	}
	return api.Label{Level: n, Comp: c}, true
}
