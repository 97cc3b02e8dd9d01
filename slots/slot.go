package slots

import (
	"iter"

	"redwax/api"
)

const (
	markAt   = 0
	headSize = 5

	absent  = 0
	present = 1
)

// head is what a slot begins with: its mark, and the length of its record.
type head [headSize]byte

// headOf returns the head of a slot that is not there yet, for a record of n bytes.
func headOf(n int) head {
	return head{absent, byte(n >> 24), byte(n >> 16), byte(n >> 8), byte(n)}
}

// length returns the length of the record; it may be any that four bytes tell.
func (h head) length() uint32 {
	return uint32(h[1])<<24 | uint32(h[2])<<16 | uint32(h[3])<<8 | uint32(h[4])
}

// sectorsOf returns how many sectors the slot of a record of n bytes has.
func sectorsOf(n int) int {
	return (headSize + n + api.SectorSize - 1) / api.SectorSize
}

// slotOf returns the sectors of the slot of text, with the mark 0, and one of zeros behind them, if
// free sectors have room for it.
func slotOf(text []byte, free int) []byte {
	b := make([]byte, min(sectorsOf(len(text))+1, free)*api.SectorSize)
	h := headOf(len(text))
	copy(b, h[:])
	copy(b[headSize:], text)
	return b
}

// records ranges over the records of the slots in b, which is whole sectors. An error stands for a
// slot that is not right, and ends the range: nothing tells where the next slot would be.
func records(b []byte) iter.Seq2[[]byte, api.Errno] {
	return func(yield func([]byte, api.Errno) bool) {
		left := b
		for len(left) > 0 && left[markAt] != absent {
			record, rest, errno := cutSlot(left)
			if !yield(record, errno) || errno != api.OK {
				return
			}
			left = rest
		}
	}
}

// cutSlot returns the record of the slot at the front of b, and the sectors behind that slot;
// ErrTamper if it is none.
func cutSlot(b []byte) (record, rest []byte, errno api.Errno) {
	h := head(b)
	if h[markAt] != present || h.length() > api.MaxRecord {
		return nil, nil, api.ErrTamper
	}
	n := int(h.length())
	size := sectorsOf(n) * api.SectorSize
	if size > len(b) {
		return nil, nil, api.ErrTamper
	}
	return b[headSize : headSize+n], b[size:], api.OK
}
