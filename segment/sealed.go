package segment

import (
	"redwax/api"
	"redwax/codec"
	"redwax/epoch"
	"redwax/seal"
)

const (
	noEpoch    = 0
	firstEpoch = 1

	// lengthSize is how many bytes a bucket has beside the longest record that it has room for;
	// sealSize is how many a sealed record has beside its bucket: its epoch and its tag.
	lengthSize = 4
	sealSize   = 4 + len(api.Hash{})
)

// contextOf returns the context of a label of a repository, whether or not the label is valid.
func contextOf(repo string, l api.Label) []byte {
	return codec.Label(codec.Text(nil, repo), l)
}

// nextEpoch returns the counter's next value; no epoch, and no error, if it is at its bound: what is
// there can still be read then.
func nextEpoch(c *epoch.Counter) (uint32, api.Errno) {
	switch errno := c.Next(); errno {
	case api.OK:
		return uint32(c.Value()), api.OK
	case api.ErrCount:
		return noEpoch, api.OK
	default:
		return noEpoch, errno
	}
}

// place returns where the record at a position is sealed by this segment. To open a record no epoch
// is needed.
func (s *Segment) place(position int) seal.Place {
	return seal.Place{Context: s.context, Position: uint64(position), Epoch: s.epoch}
}

// opened returns the log's records; ErrTamper unless each of them was sealed at its place. An epoch
// above most, to which the counter has come, or below that of the record before it, is none by which
// a record was appended there.
func (s *Segment) opened(most uint32) ([][]byte, api.Errno) {
	var texts [][]byte
	least := uint32(firstEpoch)
	for i, sealed := range s.log.All() {
		text, sealedBy, errno := seal.Open(s.key, s.place(i), sealed)
		if errno != api.OK || sealedBy < least || sealedBy > most {
			return nil, api.ErrTamper
		}
		texts, least = append(texts, text), sealedBy
	}
	return texts, api.OK
}

// longest returns how long a record may be so that it has at most room bytes when it is sealed; -1
// if even the empty one has more. One byte more than a bucket has room for leads to the next bucket,
// as long as there is one.
func longest(room int) int {
	n := -1
	for b := seal.Bucket(n + 1); b > 0 && sealSize+b <= room; b = seal.Bucket(n + 1) {
		n = b - lengthSize
	}
	return n
}
