// Package pieces: the objects that a text becomes, pieces and lists.
package pieces

import (
	"slices"

	"silt/api"
	"silt/cut"
)

// The first byte of an object.
const (
	pieceMark = 0
	listMark  = 1
)

// How many bytes a list has ahead of its parts, and each part's length and digest have.
const (
	headSize   = 3
	lengthSize = 4
	digestSize = 32
	partSize   = lengthSize + digestSize
)

// Part of a list: what it stands for, and how many bytes of the text that is.
type Part struct {
	Length int
	Digest [digestSize]byte
}

// List of pieces on level 1, of lists of one level less on a higher one.
type List struct {
	Level int
	Parts []Part
}

// Length tells how many bytes of the text a list stands for.
func (l List) Length() int {
	sum := 0
	for _, p := range l.Parts {
		sum += p.Length
	}
	return sum
}

// Root hands all pieces and lists of a text to keep, which tells their digests, and tells that of the top.
func Root(text []byte, keep func(object []byte) [digestSize]byte) [digestSize]byte {
	var parts []Part
	for _, n := range cut.Lengths(text) {
		parts = append(parts, Part{Length: n, Digest: keep(piece(text[:n]))})
		text = text[n:]
	}
	for level := 1; level == 1 || len(parts) > 1; level++ {
		parts = gather(level, parts, keep)
	}
	return parts[0].Digest
}

// gather makes lists of a level out of what stands one level below. Where nothing does there still is a list, as even the empty text has a top.
func gather(level int, parts []Part, keep func(object []byte) [digestSize]byte) []Part {
	if len(parts) == 0 {
		return []Part{{Digest: keep(bytesOf(List{Level: level}))}}
	}
	var lists []Part
	for some := range slices.Chunk(parts, api.Fan) {
		l := List{Level: level, Parts: some}
		lists = append(lists, Part{Length: l.Length(), Digest: keep(bytesOf(l))})
	}
	return lists
}

func piece(chunk []byte) []byte {
	return append([]byte{pieceMark}, chunk...)
}

func bytesOf(l List) []byte {
	out := make([]byte, 0, headSize+len(l.Parts)*partSize)
	out = append(out, listMark, byte(l.Level), byte(len(l.Parts)))
	for _, p := range l.Parts {
		out = append(out, byte(p.Length>>24), byte(p.Length>>16), byte(p.Length>>8), byte(p.Length))
		out = append(out, p.Digest[:]...)
	}
	return out
}

// Chunk tells the chunk of a piece, and whether the object is one. Whether a text would be cut so is not asked.
func Chunk(object []byte) ([]byte, bool) {
	if len(object) < 2 || object[0] != pieceMark {
		return nil, false
	}
	return object[1:], true
}

// ReadList tells a list, and whether the object is one. Where it may stand is not asked.
func ReadList(object []byte) (List, bool) {
	if len(object) < headSize || object[0] != listMark {
		return List{}, false
	}
	level, count := int(object[1]), int(object[2])
	rest := object[headSize:]
	if level < 1 || level > api.MaxLevel || count > api.Fan || len(rest) != count*partSize {
		return List{}, false
	}
	l := List{Level: level}
	for b := range slices.Chunk(rest, partSize) {
		p := readPart(b)
		if p.Length == 0 {
			return List{}, false
		}
		l.Parts = append(l.Parts, p)
	}
	return l, true
}

func readPart(b []byte) Part {
	p := Part{Digest: [digestSize]byte(b[lengthSize:])}
	for _, x := range b[:lengthSize] {
		p.Length = p.Length<<8 | int(x)
	}
	return p
}
