// Package cut: where a text is cut into chunks.
package cut

import (
	"math/bits"

	"silt/api"
)

// A roll whose bits here are all 1 ends a chunk.
const endBits = 1<<6 - 1

// table has the word that each byte gives to the roll. Only init writes into it.
var table [256]uint32

func init() {
	x := uint32(1)
	for b := range table {
		table[b] = x ^ x>>16
		x = x*1664525 + 1013904223
	}
}

// Cutter cuts a text that comes piece by piece. Of the text it keeps only what the end of the open chunk hangs on.
type Cutter struct {
	length int    // of the open chunk
	roll   uint32 // of its last bytes
	// The words of its last bytes, in turn. A place that has had no byte yet is 0, so that it takes nothing out of the roll: the word of the byte 0 would.
	window [api.Window]uint32
}

// Lengths tells the lengths of a text's chunks.
func Lengths(text []byte) []int {
	var c Cutter
	return append(c.Write(text), c.Close()...)
}

// Write takes a piece and tells the lengths of the chunks that are over with it.
func (c *Cutter) Write(b []byte) []int {
	var out []int
	for _, x := range b {
		c.add(x)
		if c.over() {
			out = append(out, c.end())
		}
	}
	return out
}

// Close ends the text and tells the length of the chunk that was open, if one was.
func (c *Cutter) Close() []int {
	if c.length == 0 {
		return nil
	}
	return []int{c.end()}
}

func (c *Cutter) add(b byte) {
	at := c.length % api.Window
	leaving := bits.RotateLeft32(c.window[at], api.Window)
	c.roll = bits.RotateLeft32(c.roll, 1) ^ leaving ^ table[b]
	c.window[at] = table[b]
	c.length++
}

func (c *Cutter) over() bool {
	return c.length >= api.MaxChunk || c.length >= api.MinChunk && c.roll&endBits == endBits
}

// end closes the open chunk and begins the next one.
func (c *Cutter) end() int {
	length := c.length
	c.length, c.roll = 0, 0
	clear(c.window[:])
	return length
}
