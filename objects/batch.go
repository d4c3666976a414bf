package objects

import (
	"errors"

	"silt/api"
	"silt/digest"
)

// Batch is objects under their digests that are kept all together, or none of them.
type Batch map[[32]byte][]byte

// Add takes an object over and tells its digest.
func (b Batch) Add(object []byte) [32]byte {
	d := digest.Sum(object)
	b[d] = object
	return d
}

// PutAll keeps the objects of a batch, which are the shelf's from now on.
func (s *Shelf) PutAll(b Batch) error {
	if !s.fits(s.more(b)) {
		return &api.Fault{Code: api.ErrFull}
	}
	for d, object := range b {
		// What is spoilt counts as lost, too: it is replaced, and only what is whole is left.
		if errors.Is(s.check(d), api.Lost) {
			s.size += len(object) - len(s.kept[d])
			s.kept[d] = object
		}
	}
	return nil
}

// more tells how many bytes those objects have together under whose digests there is nothing.
func (s *Shelf) more(b Batch) int {
	sum := 0
	for d, object := range b {
		if _, there := s.kept[d]; !there {
			sum += len(object)
		}
	}
	return sum
}

// fits asks what is left, not what would be there: the size is 0 or at most the limit, so that no limit makes this wrap round.
func (s *Shelf) fits(more int) bool { return more <= s.limit-s.size }
