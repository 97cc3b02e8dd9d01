package disk

import "redwax/api"

const (
	byteBits = 8
	maskSize = api.SectorSize / byteBits
)

// cut is a loss of power that is still to come; the zero cut is none.
type cut struct {
	laid  bool
	whole int // how many more sectors are written completely
	mask  [maskSize]byte
}

// due reports whether the power goes while the next sector is written.
func (c *cut) due() bool {
	return c.laid && c.whole == 0
}

// count takes note of a sector that was written completely.
func (c *cut) count() {
	if c.laid {
		c.whole--
	}
}

// tear writes those bytes of b to the sector that the mask tells.
func (c *cut) tear(sector, b []byte) {
	for i := range sector {
		if c.mask[i/byteBits]>>(i%byteBits)&1 == 1 {
			sector[i] = b[i]
		}
	}
}
