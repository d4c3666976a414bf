package silt_test

import (
	"encoding/binary"
	"errors"
	"math/bits"
	"math/rand"
	"strings"
	"testing"

	"silt/api"
)

// wantFault: err is a fault of this code that speaks of no object.
func wantFault(t *testing.T, what string, err error, code int) {
	t.Helper()
	f, ok := err.(*api.Fault)
	if !ok || f == nil {
		t.Fatalf("%s: the error is %v, want a fault of the code %d", what, err, code)
	}
	if f.Code != code || f.Digest != [32]byte{} {
		t.Fatalf("%s: code %d of %x, want code %d of no object", what, f.Code, f.Digest, code)
	}
	if errors.Is(err, api.Lost) {
		t.Fatalf("%s: the fault is told as a loss", what)
	}
}

// wantLoss: err is a fault of this code that speaks of the object under d, and is told as a loss.
func wantLoss(t *testing.T, what string, err error, code int, d [32]byte) {
	t.Helper()
	f, ok := err.(*api.Fault)
	if !ok || f == nil {
		t.Fatalf("%s: the error is %v, want a fault of the code %d", what, err, code)
	}
	if f.Code != code || f.Digest != d {
		t.Fatalf("%s: code %d of %x, want code %d of %x", what, f.Code, f.Digest, code, d)
	}
	if !errors.Is(err, api.Lost) {
		t.Fatalf("%s: the fault is not told as a loss", what)
	}
}

func wantNoError(t *testing.T, what string, err error) {
	t.Helper()
	if err != nil {
		t.Fatalf("%s: %v", what, err)
	}
}

func file(path, content string) api.Entry {
	return api.Entry{Path: path, Kind: api.File, Mode: 420, Time: 1, Content: content}
}

func dir(path string) api.Entry { return api.Entry{Path: path, Kind: api.Dir, Mode: 493} }

func link(path, target string) api.Entry {
	return api.Entry{Path: path, Kind: api.Link, Content: target}
}

// noted gives e notes: names and texts in turn.
func noted(e api.Entry, words ...string) api.Entry {
	for i := 0; i+1 < len(words); i += 2 {
		e.Notes = append(e.Notes, api.Note{Name: words[i], Text: words[i+1]})
	}
	return e
}

// rollOf is the roll of 16 bytes, by the document's words.
func rollOf(b []byte) uint32 {
	if len(b) != 16 {
		panic("a roll is of 16 bytes")
	}
	var h uint32
	for i, x := range b {
		word := uint32(1)
		for range x {
			word = word*1664525 + 1013904223
		}
		h ^= bits.RotateLeft32(word^word>>16, 15-i)
	}
	return h
}

// chunksOf tells the chunks of a text that are over whatever comes behind, and how many bytes are left.
func chunksOf(text []byte) (over []int, rest int) {
	for i := range text {
		rest++
		if rest == 256 || rest >= 32 && rollOf(text[i-15:i+1])%64 == 63 {
			over = append(over, rest)
			rest = 0
		}
	}
	return over, rest
}

// cutsOf tells all chunks of a text.
func cutsOf(text []byte) []int {
	over, rest := chunksOf(text)
	if rest > 0 {
		over = append(over, rest)
	}
	return over
}

// noise is n bytes of an alphabet of the given size.
func noise(r *rand.Rand, n, letters int) []byte {
	b := make([]byte, n)
	for i := range b {
		b[i] = byte(r.Intn(letters))
	}
	return b
}

// streamOf is the stream of a tree, by the document's words; it asks nothing of the tree.
func streamOf(tree []api.Entry) []byte {
	var out []byte
	for _, e := range tree {
		out = append(out, byte(e.Kind), byte(len(e.Path)))
		out = append(out, e.Path...)
		out = binary.BigEndian.AppendUint16(out, uint16(e.Mode))
		out = append(out, byte(e.Time>>32))
		out = binary.BigEndian.AppendUint32(out, uint32(e.Time))
		out = append(out, byte(len(e.Notes)))
		for _, n := range e.Notes {
			out = append(append(out, byte(len(n.Name))), n.Name...)
			out = append(append(out, byte(len(n.Text))), n.Text...)
		}
		out = binary.BigEndian.AppendUint32(out, uint32(len(e.Content)))
		out = append(out, e.Content...)
	}
	return out
}

// rises tells whether path b stands behind path a, by the document's words.
func rises(a, b string) bool {
	x, y := strings.Split(a, "/"), strings.Split(b, "/")
	for i := range min(len(x), len(y)) {
		if x[i] != y[i] {
			return x[i] < y[i]
		}
	}
	return len(x) < len(y)
}

// inOrder tells whether entries that may be are a tree: each two are held against each other, and each parent is looked for among all.
func inOrder(tree []api.Entry) bool {
	for i, e := range tree {
		for _, f := range tree[i+1:] {
			if !rises(e.Path, f.Path) {
				return false
			}
		}
		at := strings.LastIndexByte(e.Path, '/')
		found := at < 0
		for _, f := range tree {
			found = found || f.Path == e.Path[:at] && f.Kind == api.Dir
		}
		if !found {
			return false
		}
	}
	return true
}

// someTrees are trees of many forms, at the edges too.
func someTrees() [][]api.Entry {
	part := "sixteen-bytes-ok"
	deep := strings.Repeat("fifteen-bytes-x/", 4) // 64 bytes
	return [][]api.Entry{
		nil,
		{file("a", "hi")},
		{file("a", "")},
		{dir("d")},
		{link("l", "x")},
		{link("l", strings.Repeat("t", 64))},
		{link("l", "\x00/../\xff")},
		{file(part, "")},
		{file("...", ""), file("..a", ""), file(".a", "")},
		{file("\x01", ""), file("\xff", "\x00\xff")},
		{dir("a"), dir("a/b"), file("a/b/c", "x"), file("a/c", ""), file("a!", ""), file("a.b", "")},
		{dir("a"), link("a/l", "../b"), dir("b"), file("b/a", "")},
		{dir("a"), dir("a/a"), dir("a/a/a"), file("a/a/a/a", ""), file("b", "")},
		{dir(deep[:15]), dir(deep[:31]), dir(deep[:47]), file(deep[:63], "deep")},
		{dir(deep[:15]), dir(deep[:31]), dir(deep[:47]), file(deep[:48]+part, "deepest")},
		{{Path: "x", Mode: 4095, Time: 1<<40 - 1}},
		{{Path: "x", Mode: 0x0102, Time: 0x0102030405}},
		{noted(file("n", "c"), "a", "", "b", "text")},
		{noted(dir("n"), "1", "", "2", "", "3", "", "4", "")},
		{noted(link("n", "t"), part, strings.Repeat("w", 64))},
		{noted(file("n", ""), "\x00", "\x00", "/", "/", "a", "b", "a\x00", "\xff")},
		{noted(file("a", "1"), "k", "v"), noted(file("b", "2"), "k", "v", "l", "w"), noted(file("c", "3"), "k", "v")},
		{file("long", strings.Repeat("long ", 200))},
	}
}
