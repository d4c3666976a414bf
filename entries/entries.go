// Package entries: trees of entries, and the streams that they become.
package entries

import "silt/api"

// How many bytes a number has in a stream.
const (
	kindSize    = 1
	pathSize    = 1
	modeSize    = 2
	timeSize    = 5
	countSize   = 1
	noteSize    = 1
	contentSize = 4
)

// Write tells the stream of a tree.
func Write(tree []api.Entry) ([]byte, error) {
	if !isTree(tree) {
		return nil, &api.Fault{Code: api.ErrEntry}
	}
	var out []byte
	for _, e := range tree {
		out = appendHead(out, e)
		if len(e.Content) > api.MaxStream-len(out) {
			return nil, &api.Fault{Code: api.ErrLong}
		}
		out = append(out, e.Content...)
	}
	return out, nil
}

// appendHead writes all of an entry but its content.
func appendHead(out []byte, e api.Entry) []byte {
	out = appendNumber(out, kindSize, e.Kind)
	out = appendText(out, pathSize, e.Path)
	out = appendNumber(out, modeSize, e.Mode)
	out = appendNumber(out, timeSize, e.Time)
	out = appendNumber(out, countSize, len(e.Notes))
	for _, n := range e.Notes {
		out = appendText(out, noteSize, n.Name)
		out = appendText(out, noteSize, n.Text)
	}
	return appendNumber(out, contentSize, len(e.Content))
}

func appendText(out []byte, size int, text string) []byte {
	return append(appendNumber(out, size, len(text)), text...)
}

func appendNumber(out []byte, size, n int) []byte {
	for size > 0 {
		size--
		out = append(out, byte(n>>(8*size)))
	}
	return out
}

// Read tells the tree of a stream.
func Read(stream []byte) ([]api.Entry, error) {
	if len(stream) > api.MaxStream {
		return nil, &api.Fault{Code: api.ErrLong}
	}
	r := reader{rest: stream}
	var tree []api.Entry
	for len(r.rest) > 0 {
		tree = append(tree, r.entry())
	}
	if r.short || !isTree(tree) {
		return nil, &api.Fault{Code: api.ErrStream}
	}
	return tree, nil
}

// reader goes on behind the end of what there is, and remembers that it did: so only one place asks.
type reader struct {
	rest  []byte
	short bool
}

func (r *reader) entry() api.Entry {
	var e api.Entry
	e.Kind = r.number(kindSize)
	e.Path = r.text(pathSize)
	e.Mode = r.number(modeSize)
	e.Time = r.number(timeSize)
	e.Notes = r.notes()
	e.Content = r.text(contentSize)
	return e
}

func (r *reader) notes() []api.Note {
	var notes []api.Note
	for range r.number(countSize) {
		name := r.text(noteSize)
		notes = append(notes, api.Note{Name: name, Text: r.text(noteSize)})
	}
	return notes
}

func (r *reader) text(size int) string {
	return string(r.take(r.number(size)))
}

func (r *reader) number(size int) int {
	n := 0
	for _, b := range r.take(size) {
		n = n<<8 | int(b)
	}
	return n
}

func (r *reader) take(n int) []byte {
	there := min(n, len(r.rest))
	r.short = r.short || there < n
	out := r.rest[:there]
	r.rest = r.rest[there:]
	return out
}
