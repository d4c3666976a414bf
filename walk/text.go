package walk

import "silt/pieces"

// Text is the text of a root, of which the top was got. What else it needs it gets where bytes are asked for.
type Text struct {
	from Source
	root [32]byte
	top  pieces.List

	// The chunk that Byte went down to last, and its place: the next byte is mostly there, too.
	at    int
	chunk []byte
}

// Open gets the top of a text.
func Open(from Source, root [32]byte) (*Text, error) {
	top, err := getTop(from, root)
	if err != nil {
		return nil, err
	}
	return &Text{from: from, root: root, top: top}, nil
}

// Length tells how many bytes the text has.
func (t *Text) Length() int { return t.top.Length() }

// Byte tells the byte at a place, which is one of the text.
func (t *Text) Byte(at int) (byte, error) {
	if at < t.at || at >= t.at+len(t.chunk) {
		if err := t.reach(at); err != nil {
			return 0, err
		}
	}
	return t.chunk[at-t.at], nil
}

func (t *Text) reach(at int) error {
	return t.down(at, at+1, func(place int, chunk []byte) { t.at, t.chunk = place, chunk })
}

// read tells the bytes from low on, below high.
func (t *Text) read(low, high int) ([]byte, error) {
	out := make([]byte, 0, high-low)
	err := t.down(low, high, func(at int, chunk []byte) {
		out = append(out, chunk[max(low-at, 0):min(high-at, len(chunk))]...)
	})
	if err != nil {
		return nil, err
	}
	return out, nil
}

// down hands all chunks that have a byte from low on, below high, to meet, from left to right, each with its place.
func (t *Text) down(low, high int, meet func(at int, chunk []byte)) error {
	w := walker{from: t.from, low: low, high: high, meet: meet}
	return w.parts(t.root, t.top, 0)
}

// walker goes down to pieces.
type walker struct {
	from      Source
	low, high int
	meet      func(at int, chunk []byte)
}

// parts goes down to those parts of the list under d, whose bytes begin at a place of the text, that have a byte which is asked for.
func (w *walker) parts(d [32]byte, l pieces.List, at int) error {
	for i, p := range l.Parts {
		if max(at, w.low) < min(at+p.Length, w.high) {
			if err := w.part(l.Level, p, at); err != nil {
				return &Place{List: d, Part: i, err: err}
			}
		}
		at += p.Length
	}
	return nil
}

// part goes down to a part of a list of this level.
func (w *walker) part(level int, p pieces.Part, at int) error {
	if level == 1 {
		chunk, err := getChunk(w.from, p)
		if err != nil {
			return err
		}
		w.meet(at, chunk)
		return nil
	}
	l, err := getBelow(w.from, level, p)
	if err != nil {
		return err
	}
	return w.parts(p.Digest, l, at)
}
