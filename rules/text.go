package rules

import (
	"strconv"
	"strings"

	"redwax/label"
)

const (
	versionMark = "v"
	newline     = "\n"
	space       = " "
)

// Text returns the version, and a line for each rule, whatever t is (P7.5).
func Text(t Table) string {
	var b strings.Builder
	write(&b, versionMark, strconv.Itoa(t.Version))
	for _, r := range t.Rules {
		write(&b, newline, label.Text(r.Label), space, r.Prefix)
	}
	return b.String()
}

// write writes the parts behind what b has.
func write(b *strings.Builder, parts ...string) {
	for _, s := range parts {
		b.WriteString(s)
	}
}
