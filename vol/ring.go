package vol

import (
	"ambry/api"
	"ambry/frag"
)

// broken is what the reading of a fragment panics with that isn't whole.
type broken struct {
	errno api.Errno
}

// write puts bytes behind the cursor; sectors that are full go to the disk.
func (v *Vol) write(b []byte) api.Errno {
	v.tail = append(v.tail, b...)
	v.cursor += uint64(len(b))
	for len(v.tail) >= v.plan.size {
		at := v.cursor - uint64(len(v.tail))
		if v.d.Write(v.plan.place(at), v.tail[:v.plan.size]) != api.OK {
			return v.fail()
		}
		v.tail = v.tail[v.plan.size:]
	}
	return api.OK
}

// read answers the fragment at a spot; ErrForm, if it isn't whole there.
func (v *Vol) read(s spot) (f api.Frag, payload []byte, errno api.Errno) {
	defer func() {
		if b, ok := recover().(broken); ok {
			f, payload, errno = api.Frag{}, nil, b.errno
		}
	}()
	f, payload, errno = frag.OpenFrag(v.bytesAt(s))
	if errno != api.OK || f.Turn != s.turn {
		panic(broken{api.ErrForm})
	}
	return f, payload, api.OK
}

// bytesAt answers the bytes at a spot, from the disk and from the tail.
func (v *Vol) bytesAt(s spot) []byte {
	b := make([]byte, 0, s.size)
	for len(b) < s.size {
		piece := v.sectorFrom(s.at + uint64(len(b)))
		if len(piece) == 0 {
			panic(broken{api.ErrForm})
		}
		b = append(b, piece[:min(len(piece), s.size-len(b))]...)
	}
	return b
}

// sectorFrom answers what a sector holds from that byte on.
func (v *Vol) sectorFrom(at uint64) []byte {
	begins := v.cursor - uint64(len(v.tail))
	if at >= begins {
		return v.tail[min(at-begins, uint64(len(v.tail))):]
	}
	b, errno := v.d.Read(v.plan.place(at))
	if errno != api.OK {
		panic(broken{errno})
	}
	return b[at%uint64(v.plan.size):]
}
