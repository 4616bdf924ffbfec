package vol

import (
	"ambry/disk"
)

const (
	leastSectors = 64
	leastSize    = 128
	perFrag      = 256 // what a fragment counts for beside its payload
	slots        = 16  // of a bucket
	roundUp      = 2   // so that room is half of an odd number, too, and twice a quarter that is rounded up

	// mostFrags: a volume holds at least 2000 others beside a fragment;
	// 200 documents of layer 7 that are to be kept may have some 2134.
	mostFrags = 2400

	// spareFrags: small disks, too, hold a few, though they needn't.
	spareFrags = 8
)

// plan: how a disk is laid out: two snapshots, and behind them the ring of sectors where the cursor goes round.
type plan struct {
	sectors, size int
	room          int
	most          int // fragments at most
	snap          int // sectors of a snapshot
	ring          int // sectors of the ring
}

// planOf answers the layout of a disk, and whether it has room for one.
func planOf(d *disk.Disk) (plan, bool) {
	p := plan{sectors: d.Sectors(), size: d.Size()}
	if p.sectors < leastSectors || p.size < leastSize {
		return plan{}, false
	}
	p.room = p.sectors*p.size/2 + roundUp - 32*p.size
	p.most = min(mostFrags, p.room/perFrag) + spareFrags
	p.snap = (p.snapBytes() + p.size - 1) / p.size
	p.ring = p.sectors - 2*p.snap
	return p, true
}

// snapBytes answers how many bytes a snapshot has at most: its frame, numbers,
// the tail, a directory with a bucket for each fragment, and small ones for
// what doesn't fit into its bucket there.
func (p plan) snapBytes() int {
	const numbers, text = 6 * 10, 10
	first := text + 12 + p.most
	spill := (p.most/slots + 1) * (text + 13)
	return frameSize + numbers + text + p.size + first + spill + 16*p.most
}

// bytes answers how many bytes the ring has.
func (p plan) bytes() uint64 { return uint64(p.ring) * uint64(p.size) }

// place answers the sector of the disk where the byte at that number lies.
func (p plan) place(at uint64) int {
	return 2*p.snap + int(at/uint64(p.size)%uint64(p.ring))
}

// snapPlace answers the first sector of the snapshot of that number; two behind one another never share any.
func (p plan) snapPlace(n uint64) int { return int(n%2) * p.snap }
