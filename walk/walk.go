// Package walk: the way down from a root, through lists, to the bytes of a text.
package walk

import (
	"silt/api"
	"silt/pieces"
)

// Source is where objects are got. Its errors are faults that speak of the object.
type Source interface {
	Get(d [32]byte) ([]byte, error)
}

// All tells the whole text of a root.
func All(from Source, root [32]byte) ([]byte, error) {
	top, err := getTop(from, root)
	if err != nil {
		return nil, err
	}
	return read(from, root, top, 0, top.Length())
}

// Some tells the n bytes of a text from a place on. Nothing is got that has none of them, but the top.
func Some(from Source, root [32]byte, at, n int) ([]byte, error) {
	if at < 0 || n < 0 {
		return nil, &api.Fault{Code: api.ErrRange}
	}
	top, err := getTop(from, root)
	if err != nil {
		return nil, err
	}
	// The sum of at and n may be beyond all numbers: what is left behind at is asked instead.
	if n > top.Length()-at {
		return nil, &api.Fault{Code: api.ErrRange}
	}
	return read(from, root, top, at, at+n)
}

func getTop(from Source, root [32]byte) (pieces.List, error) {
	l, err := getList(from, root)
	if err != nil {
		return pieces.List{}, err
	}
	if !isTop(l) {
		return pieces.List{}, wrongForm(root)
	}
	return l, nil
}

// isTop: no text needs a list above a single one.
func isTop(l pieces.List) bool {
	return (l.Level == 1 || len(l.Parts) > 1) && l.Length() <= api.MaxStream
}

func getList(from Source, d [32]byte) (pieces.List, error) {
	object, err := from.Get(d)
	if err != nil {
		return pieces.List{}, err
	}
	l, ok := pieces.ReadList(object)
	if !ok {
		return pieces.List{}, wrongForm(d)
	}
	return l, nil
}

func wrongForm(d [32]byte) error {
	return &api.Fault{Code: api.ErrForm, Digest: d}
}

// reader gathers the bytes of a text from low on, below high.
type reader struct {
	from      Source
	low, high int
	out       []byte
}

func read(from Source, root [32]byte, top pieces.List, low, high int) ([]byte, error) {
	r := reader{from: from, low: low, high: high, out: make([]byte, 0, high-low)}
	if err := r.parts(root, top, 0); err != nil {
		return nil, err
	}
	return r.out, nil
}

// parts goes down to those parts of the list under d, whose bytes begin at a place of the text, that have a byte which is asked for.
func (r *reader) parts(d [32]byte, l pieces.List, at int) error {
	for i, p := range l.Parts {
		if max(at, r.low) < min(at+p.Length, r.high) {
			if err := r.part(l.Level, p, at); err != nil {
				return &Place{List: d, Part: i, err: err}
			}
		}
		at += p.Length
	}
	return nil
}

// part goes down to a part of a list of this level.
func (r *reader) part(level int, p pieces.Part, at int) error {
	if level == 1 {
		return r.piece(p, at)
	}
	l, err := getList(r.from, p.Digest)
	if err != nil {
		return err
	}
	if l.Level != level-1 || l.Length() != p.Length {
		return wrongForm(p.Digest)
	}
	return r.parts(p.Digest, l, at)
}

func (r *reader) piece(p pieces.Part, at int) error {
	object, err := r.from.Get(p.Digest)
	if err != nil {
		return err
	}
	chunk, ok := pieces.Chunk(object)
	if !ok || len(chunk) != p.Length {
		return wrongForm(p.Digest)
	}
	r.out = append(r.out, chunk[max(r.low-at, 0):min(r.high-at, len(chunk))]...)
	return nil
}
