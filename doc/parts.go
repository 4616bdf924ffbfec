package doc

import (
	"slices"

	"ambry/api"
	"ambry/big"
	"ambry/sha"
)

const (
	headSize = 4 + 4 + len(api.Key{}) // lengths of meta and of the bytes, and the sum of all
	maxParts = (headSize + api.MaxMeta + api.MaxDoc + api.MaxFrag - 1) / api.MaxFrag
)

// whole puts a document together: its lengths, the sum, meta, its bytes. By
// the sum parts of unlike documents are told from those of one.
func whole(meta, body []byte) []byte {
	b := big.Append(nil, uint64(len(meta)), 4)
	b = big.Append(b, uint64(len(body)), 4)
	sum := sumOf(len(meta), len(body), meta, body)
	return slices.Concat(b, sum[:], meta, body)
}

func sumOf(metaSize, bodySize int, texts ...[]byte) api.Key {
	b := big.Append(nil, uint64(metaSize), 4)
	b = big.Append(b, uint64(bodySize), 4)
	return sha.Sum(append(b, slices.Concat(texts...)...))
}

// keep puts a writer's document on the volume, in the place of an earlier one.
// All its parts are put at once: what is put behind a document was closed behind it.
func (s *Store) keep(x *writer) api.Errno {
	b := whole(x.meta, x.body)
	part := 0
	for len(b) > 0 {
		n := min(len(b), api.MaxFrag)
		if errno := s.v.Put(x.key, part, n == len(b), b[:n]); errno != api.OK {
			return errno
		}
		b = b[n:]
		part++
	}
	return s.dropFrom(x.key, part)
}

// dropFrom drops all parts of a document from that one on.
func (s *Store) dropFrom(k api.Key, part int) api.Errno {
	for ; part < maxParts; part++ {
		if errno := s.v.Drop(k, part); errno != api.OK {
			return errno
		}
	}
	return api.OK
}

// Delete takes a document away.
func (s *Store) Delete(k api.Key) api.Errno { return s.dropFrom(k, 0) }

// Read answers the document that was closed last, if all its parts are there.
func (s *Store) Read(k api.Key) ([]byte, []byte, api.Errno) {
	b, errno := s.parts(k)
	if errno != api.OK {
		return nil, nil, errno
	}
	metaSize, bodySize := int(big.Of(b[:4])), int(big.Of(b[4:8]))
	rest := b[headSize:]
	if metaSize+bodySize != len(rest) || sumOf(metaSize, bodySize, rest) != api.Key(b[8:headSize]) {
		return nil, nil, api.ErrDocNone
	}
	return slices.Clone(rest[:metaSize]), slices.Clone(rest[metaSize:]), api.OK
}

// parts answers a document's parts to the last one, behind one another.
func (s *Store) parts(k api.Key) ([]byte, api.Errno) {
	var b []byte
	for part := range maxParts {
		piece, last, errno := s.v.Get(k, part)
		if errno == api.ErrDiskDead {
			return nil, errno
		}
		b = append(b, piece...)
		if errno != api.OK || last {
			break
		}
	}
	if len(b) < headSize {
		return nil, api.ErrDocNone
	}
	return b, api.OK
}
