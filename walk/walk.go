// Package walk: the way down from a root, through lists, to the bytes of a text.
package walk

import (
	"silt/api"
	"silt/pieces"
)

// Source is where objects are got. Its errors are faults that speak of the object.
type Source interface {
	Get(d [32]byte) ([]byte, error)
}

// All tells the whole text of a root.
func All(from Source, root [32]byte) ([]byte, error) {
	t, err := Open(from, root)
	if err != nil {
		return nil, err
	}
	return t.read(0, t.Length())
}

// Some tells the n bytes of a text from a place on. Nothing is got that has none of them, but the top.
func Some(from Source, root [32]byte, at, n int) ([]byte, error) {
	if at < 0 || n < 0 {
		return nil, &api.Fault{Code: api.ErrRange}
	}
	t, err := Open(from, root)
	if err != nil {
		return nil, err
	}
	// The sum of at and n may be beyond all numbers: what is left behind at is asked instead.
	if n > t.Length()-at {
		return nil, &api.Fault{Code: api.ErrRange}
	}
	return t.read(at, at+n)
}

func getTop(from Source, root [32]byte) (pieces.List, error) {
	l, err := getList(from, root)
	if err != nil {
		return pieces.List{}, err
	}
	if !isTop(l) {
		return pieces.List{}, wrongForm(root)
	}
	return l, nil
}

// isTop: no text needs a list above a single one.
func isTop(l pieces.List) bool {
	return (l.Level == 1 || len(l.Parts) > 1) && l.Length() <= api.MaxStream
}

// getBelow gets the list that is a part of a list of this level.
func getBelow(from Source, level int, p pieces.Part) (pieces.List, error) {
	l, err := getList(from, p.Digest)
	if err != nil {
		return pieces.List{}, err
	}
	if l.Level != level-1 || l.Length() != p.Length {
		return pieces.List{}, wrongForm(p.Digest)
	}
	return l, nil
}

func getList(from Source, d [32]byte) (pieces.List, error) {
	object, err := from.Get(d)
	if err != nil {
		return pieces.List{}, err
	}
	l, ok := pieces.ReadList(object)
	if !ok {
		return pieces.List{}, wrongForm(d)
	}
	return l, nil
}

func getChunk(from Source, p pieces.Part) ([]byte, error) {
	object, err := from.Get(p.Digest)
	if err != nil {
		return nil, err
	}
	chunk, ok := pieces.Chunk(object)
	if !ok || len(chunk) != p.Length {
		return nil, wrongForm(p.Digest)
	}
	return chunk, nil
}

func wrongForm(d [32]byte) error {
	return &api.Fault{Code: api.ErrForm, Digest: d}
}
