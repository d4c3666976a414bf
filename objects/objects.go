// Package objects: bytes that are kept under their digests, together no more than a limit.
package objects

import (
	"bytes"

	"silt/api"
	"silt/digest"
)

// Shelf keeps objects. It has no lock of its own: a call may look at many objects, and must hold one lock over all of them.
type Shelf struct {
	limit int
	size  int // of all that is kept, in bytes
	kept  map[[32]byte][]byte
}

// New makes an empty shelf for at most limit bytes.
func New(limit int) *Shelf {
	return &Shelf{limit: limit, kept: map[[32]byte][]byte{}}
}

// Put keeps an object under its digest.
func (s *Shelf) Put(object []byte) ([32]byte, error) {
	if len(object) > api.MaxObject {
		return [32]byte{}, &api.Fault{Code: api.ErrLong}
	}
	one := Batch{}
	d := one.Add(bytes.Clone(object))
	if err := s.PutAll(one); err != nil {
		return [32]byte{}, err
	}
	return d, nil
}

// Get tells a copy of the object under d.
func (s *Shelf) Get(d [32]byte) ([]byte, error) {
	if err := s.check(d); err != nil {
		return nil, err
	}
	return bytes.Clone(s.kept[d]), nil
}

// check tells what is wrong with what is under d.
func (s *Shelf) check(d [32]byte) error {
	object, there := s.kept[d]
	if !there {
		return &api.Fault{Code: api.ErrMissing, Digest: d}
	}
	if digest.Sum(object) != d {
		return &api.Fault{Code: api.ErrBroken, Digest: d}
	}
	return nil
}

// Remove tells whether there was something under d, which is gone now.
func (s *Shelf) Remove(d [32]byte) bool {
	object, there := s.kept[d]
	delete(s.kept, d)
	s.size -= len(object)
	return there
}

// Keep removes all objects that are not under one of these digests, and tells how many these were.
func (s *Shelf) Keep(needed map[[32]byte]struct{}) int {
	gone := 0
	for d := range s.kept {
		if _, stays := needed[d]; !stays {
			s.Remove(d)
			gone++
		}
	}
	return gone
}

// Spoil changes one byte of what is under d, if it has this place.
func (s *Shelf) Spoil(d [32]byte, at int, with byte) bool {
	object := s.kept[d]
	if at < 0 || at >= len(object) {
		return false
	}
	object[at] = with
	return true
}

// Count tells how many objects and how many bytes are kept.
func (s *Shelf) Count() (int, int) { return len(s.kept), s.size }
