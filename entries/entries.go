// Package entries: trees of entries, and the streams that they become.
package entries

import "silt/api"

// How many bytes a number has in a stream.
const (
	kindSize    = 1
	pathSize    = 1
	modeSize    = 2
	timeSize    = 5
	countSize   = 1
	noteSize    = 1
	contentSize = 4
)

// Write tells the stream of a tree.
func Write(tree []api.Entry) ([]byte, error) {
	if !isTree(tree) {
		return nil, &api.Fault{Code: api.ErrEntry}
	}
	var out []byte
	for _, e := range tree {
		out = appendHead(out, e)
		if len(e.Content) > api.MaxStream-len(out) {
			return nil, &api.Fault{Code: api.ErrLong}
		}
		out = append(out, e.Content...)
	}
	return out, nil
}

// appendHead writes all of an entry but its content.
func appendHead(out []byte, e api.Entry) []byte {
	out = appendNumber(out, kindSize, e.Kind)
	out = appendText(out, pathSize, e.Path)
	out = appendNumber(out, modeSize, e.Mode)
	out = appendNumber(out, timeSize, e.Time)
	out = appendNumber(out, countSize, len(e.Notes))
	for _, n := range e.Notes {
		out = appendText(out, noteSize, n.Name)
		out = appendText(out, noteSize, n.Text)
	}
	return appendNumber(out, contentSize, len(e.Content))
}

func appendText(out []byte, size int, text string) []byte {
	return append(appendNumber(out, size, len(text)), text...)
}

func appendNumber(out []byte, size, n int) []byte {
	for size > 0 {
		size--
		out = append(out, byte(n>>(8*size)))
	}
	return out
}
