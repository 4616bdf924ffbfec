package vol

import (
	"cmp"
	"slices"

	"ambry/api"
	"ambry/big"
	"ambry/code"
	"ambry/dir"
	"ambry/disk"
	"ambry/sha"
)

// frameSize: ahead of a snapshot stand its length (4 bytes, the highest first) and its sum.
const frameSize = 4 + len(api.Key{})

// shot: what a snapshot tells.
type shot struct {
	snap, cursor, turn uint64
	tail               []byte
	entries            []api.Entry
}

// snapshot answers all that must be told to go on from here.
func (v *Vol) snapshot() []byte {
	w := code.NewWriter()
	w.Num(uint64(v.plan.sectors))
	w.Num(uint64(v.plan.size))
	w.Num(v.snap)
	w.Num(v.cursor)
	w.Num(v.turn)
	w.Text(v.tail)
	dirs := v.dirs()
	w.Num(uint64(len(dirs)))
	for _, d := range dirs {
		w.Text(d.Bytes())
	}
	return w.Bytes()
}

// dirs answers directories of all that is there: one with a bucket for each
// fragment that there may be, and small ones for those whose bucket is full.
func (v *Vol) dirs() []*dir.Dir {
	l := []*dir.Dir{dir.New(v.plan.most, slots)}
	for _, s := range v.line {
		if v.stands(s) {
			l = v.insert(l, s)
		}
	}
	return l
}

func (v *Vol) insert(l []*dir.Dir, s step) []*dir.Dir {
	at := uint32(s.spot.at % v.plan.bytes())
	for _, d := range l {
		if d.Insert(s.key, at, uint16(s.spot.size), s.spot.turn) == api.OK {
			return l
		}
	}
	d := dir.New(1, slots)
	d.Insert(s.key, at, uint16(s.spot.size), s.spot.turn)
	return append(l, d)
}

// writeSnap writes a snapshot, with noughts behind it to the end of a sector; whether the disk did it.
func (p plan) writeSnap(d *disk.Disk, n uint64, body []byte) bool {
	sum := sha.Sum(body)
	b := big.Append(nil, uint64(len(body)), 4)
	b = append(append(b, sum[:]...), body...)
	b = append(b, make([]byte, p.size-1)...)
	for i := range len(b) / p.size {
		if d.Write(p.snapPlace(n)+i, b[i*p.size:(i+1)*p.size]) != api.OK {
			return false
		}
	}
	return true
}

// readSnap answers the body of the snapshot of that number, if it is whole.
func (p plan) readSnap(d *disk.Disk, n uint64) ([]byte, bool, api.Errno) {
	b, errno := d.Read(p.snapPlace(n))
	if errno != api.OK {
		return nil, false, errno
	}
	size := int(big.Of(b[:4]))
	if size > p.snap*p.size-frameSize {
		return nil, false, api.OK
	}
	for i := 1; len(b) < frameSize+size; i++ {
		more, errno := d.Read(p.snapPlace(n) + i)
		if errno != api.OK {
			return nil, false, errno
		}
		b = append(b, more...)
	}
	body := b[frameSize : frameSize+size]
	whole := sha.Sum(body) == api.Key(b[4:frameSize])
	return body, whole, api.OK
}

// openSnap reads a snapshot's body; false, if it isn't one of this very layout.
func (p plan) openSnap(body []byte) (shot, bool) {
	r := code.NewReader(body)
	here := r.Num() == uint64(p.sectors)
	here = r.Num() == uint64(p.size) && here
	s := shot{snap: r.Num(), cursor: r.Num(), turn: r.Num(), tail: r.Text()}
	n := r.Num()
	if !here || n > uint64(len(body)) || uint64(len(s.tail)) != s.cursor%uint64(p.size) {
		return shot{}, false
	}
	for range n {
		d, errno := dir.Open(r.Text())
		if errno != api.OK {
			return shot{}, false
		}
		s.entries = append(s.entries, d.All()...)
	}
	return s, r.Done() == api.OK
}

// newest answers the later one of the two snapshots; none, if neither is whole.
func (p plan) newest(d *disk.Disk) (shot, api.Errno) {
	var best shot
	for n := range uint64(2) {
		body, whole, errno := p.readSnap(d, n)
		if errno != api.OK {
			return shot{}, errno
		}
		if !whole {
			continue
		}
		if s, ok := p.openSnap(body); ok && s.snap > best.snap {
			best = s
		}
	}
	return best, api.OK
}

// Open answers the volume of a disk, as its newest snapshot tells it.
func Open(d *disk.Disk) (*Vol, api.Errno) {
	if d == nil {
		return nil, api.ErrVolForm
	}
	if _, errno := d.Read(0); errno != api.OK {
		return nil, errno
	}
	p, ok := planOf(d)
	if !ok {
		return nil, api.ErrVolForm
	}
	s, errno := p.newest(d)
	if errno != api.OK {
		return nil, errno
	}
	v := &Vol{d: d, plan: p, index: map[name]spot{}, cursor: s.cursor, tail: s.tail, turn: s.turn, snap: s.snap}
	slices.SortFunc(s.entries, func(a, b api.Entry) int { return cmp.Compare(a.Turn, b.Turn) })
	for _, e := range s.entries {
		if errno := v.take(e); errno != api.OK {
			return nil, errno
		}
	}
	return v, api.OK
}

// take puts a fragment of the directory into the index, if it is there and
// whole: the cursor may have come over it behind the snapshot.
func (v *Vol) take(e api.Entry) api.Errno {
	round := v.plan.bytes()
	back := (v.cursor%round + round - uint64(e.At)%round) % round
	if back == 0 {
		back = round
	}
	if back > v.cursor || uint64(e.Sectors) > back {
		return api.OK
	}
	s := spot{at: v.cursor - back, size: int(e.Sectors), turn: e.Turn}
	f, _, errno := v.read(s)
	if errno == api.ErrDiskDead {
		return errno
	}
	n := name{key: f.Key, part: f.Part}
	if errno == api.OK && dir.Tag(dirKey(n)) == e.Tag {
		v.index[n] = s
		v.line = append(v.line, step{name: n, spot: s, key: dirKey(n)})
	}
	return api.OK
}
