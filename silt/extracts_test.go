package silt_test

import (
	"bytes"
	"crypto/sha256"
	"errors"
	"fmt"
	"math"
	"math/rand"
	"reflect"
	"slices"
	"strings"
	"sync"
	"testing"

	"silt/api"
	"silt/silt"
)

// extracts: Extract tells these entries.
func extracts(t *testing.T, s *silt.Store, root [32]byte, path string, want []api.Entry) {
	t.Helper()
	got, err := s.Extract(root, path)
	wantNoError(t, fmt.Sprintf("Extract(%q)", path), err)
	if !reflect.DeepEqual(got, want) {
		t.Fatalf("Extract(%q) = %.300s, want %.300s", path, fmt.Sprint(got), fmt.Sprint(want))
	}
}

// notExtracted: Extract answers this error, and nothing beside it.
func notExtracted(t *testing.T, s *silt.Store, root [32]byte, path string, code int, of [32]byte) {
	t.Helper()
	got, err := s.Extract(root, path)
	wantFaultOf(t, fmt.Sprintf("Extract(%q)", path), err, code, of)
	if got != nil {
		t.Fatalf("Extract(%q) = %.300s beside an error", path, fmt.Sprint(got))
	}
}

// extractsAs: Extract tells what the document's words tell.
func extractsAs(t *testing.T, s *silt.Store, p plainStore, root [32]byte, path string) finding {
	t.Helper()
	want, f, _ := p.extract(root, path)
	if f.code == 0 {
		extracts(t, s, root, path, want)
	} else {
		notExtracted(t, s, root, path, f.code, f.of)
	}
	return f
}

// lay keeps a text that is cut into these lengths, in lists of so many parts, and tells its root.
func lay(put func([]byte), text []byte, lengths []int, fan int) [32]byte {
	var parts []part
	for _, n := range lengths {
		parts = append(parts, partOf(n, pieceOf(text[:n])))
		put(pieceOf(text[:n]))
		text = text[n:]
	}
	for level := 1; level == 1 || len(parts) > 1; level++ {
		var above []part
		for len(parts) > 0 || len(above) == 0 {
			some := parts[:min(fan, len(parts))]
			parts = parts[len(some):]
			put(listOf(level, some...))
			above = append(above, partOf(sumOf(some), listOf(level, some...)))
		}
		parts = above
	}
	return parts[0].d
}

// ones cuts a text into single bytes, so that each can be lost alone.
func ones(text []byte) []int { return slices.Repeat([]int{1}, len(text)) }

// layGap keeps a text of single bytes, of which those from gone on, below end, are lost: what stood there has a digest of its own.
func layGap(t *testing.T, s *silt.Store, text []byte, gone, end int) (root, lost [32]byte) {
	t.Helper()
	lost = sha256.Sum256([]byte("gone"))
	var parts []part
	for i, b := range text {
		if i >= gone && i < end {
			parts = append(parts, part{1, lost})
		} else {
			parts = append(parts, part{1, mustPut(t, s, []byte{0, b})})
		}
	}
	for level := 1; level == 1 || len(parts) > 1; level++ {
		var above []part
		for some := range slices.Chunk(parts, 8) {
			above = append(above, part{sumOf(some), mustPut(t, s, listOf(level, some...))})
		}
		parts = above
	}
	return parts[0].d, lost
}

// isPathByWords: what the document says of a path.
func isPathByWords(path string) bool {
	if len(path) > 64 {
		return false
	}
	for _, p := range strings.Split(path, "/") {
		if len(p) < 1 || len(p) > 16 || p == "." || p == ".." || strings.Contains(p, "\x00") {
			return false
		}
	}
	return true
}

// isHeadByWords: what the document says of an entry whose content has n bytes.
func isHeadByWords(e api.Entry, n int) bool {
	if !isPathByWords(e.Path) || e.Kind > 2 || e.Mode > 4095 || len(e.Notes) > 4 {
		return false
	}
	for i, note := range e.Notes {
		if len(note.Name) < 1 || len(note.Name) > 16 || len(note.Text) > 64 || i > 0 && note.Name <= e.Notes[i-1].Name {
			return false
		}
	}
	return e.Kind == 0 || e.Kind == 1 && n == 0 || e.Kind == 2 && n >= 1 && n <= 64
}

// scan reads a text byte by byte, each by a walk of its own.
type scan struct {
	p         plainStore
	root      [32]byte
	at, total int
	f         finding
	met       map[[32]byte]int
}

func (s *scan) number(size int) int {
	n := 0
	for _, b := range []byte(s.words(size)) {
		n = n*256 + int(b)
	}
	return n
}

func (s *scan) words(n int) string {
	var out []byte
	for len(out) < n && s.f.code == 0 {
		if s.at == s.total {
			s.f = finding{api.ErrStream, s.root}
			break
		}
		b, f, met := s.p.read(s.root, s.at, 1)
		for _, d := range met {
			s.met[d]++
		}
		s.f = f
		s.at++
		out = append(out, b...)
	}
	return string(out)
}

// extract does what P8 says, by its words, and tells all that it met.
func (p plainStore) extract(root [32]byte, path string) (found []api.Entry, f finding, met map[[32]byte]int) {
	if !isPathByWords(path) {
		return nil, finding{code: api.ErrEntry}, nil
	}
	if _, f, _ := p.read(root, 0, 0); f.code != 0 {
		return nil, f, nil
	}
	_, parts, _ := p.list(root)
	s := scan{p: p, root: root, total: sumOf(parts), met: map[[32]byte]int{root: 1}}
	var ahead []api.Entry
	for s.at < s.total {
		e := api.Entry{Kind: s.number(1)}
		e.Path = s.words(s.number(1))
		e.Mode = s.number(2)
		e.Time = s.number(5)
		for range s.number(1) {
			name := s.words(s.number(1))
			e.Notes = append(e.Notes, api.Note{Name: name, Text: s.words(s.number(1))})
		}
		n := s.number(4)
		if s.f.code != 0 {
			return nil, s.f, nil
		}
		if ahead = append(ahead, e); !isHeadByWords(e, n) || !inOrder(ahead) || s.at+n > s.total {
			return nil, finding{api.ErrStream, root}, nil
		}
		if e.Path == path || strings.HasPrefix(e.Path, path+"/") {
			e.Content = s.words(n)
			if s.f.code != 0 {
				return nil, s.f, nil
			}
			found = append(found, e)
			continue
		}
		if rises(path, e.Path) {
			break
		}
		s.at += n
	}
	if len(found) == 0 {
		return nil, finding{code: api.ErrPath}, nil
	}
	return found, finding{}, s.met
}

// below tells those entries of a tree that a path asks for.
func below(tree []api.Entry, path string) []api.Entry {
	var out []api.Entry
	for _, e := range tree {
		if e.Path == path || strings.HasPrefix(e.Path, path+"/") {
			out = append(out, e)
		}
	}
	return out
}

// pathsAround tells a tree's paths, and others that stand close to them.
func pathsAround(tree []api.Entry) []string {
	out := []string{"a", "!", "\xff", "sixteen-bytes-ok"}
	for _, e := range tree {
		at := len(e.Path) - 1
		out = append(out, e.Path, e.Path+"!", e.Path+"/a", e.Path+"/\x01", e.Path[:at]+"!", e.Path[:at]+"\xff", e.Path[:at]+string(e.Path[at]+1), e.Path[:at])
	}
	return out
}

func TestP8PathsOfTrees(t *testing.T) {
	r := rand.New(rand.NewSource(60))
	trees := append(someTrees(), greatTrees(t, r)...)
	trees = append(trees, wideTree(r, 5), wideTree(r, 100), treeOfChunks(t, r, 9))
	told, none := 0, 0
	for _, tree := range trees {
		s, root := saved(t, tree)
		n, m := s.Count()
		for _, path := range pathsAround(tree) {
			want := below(tree, path)
			switch {
			case !isPathByWords(path):
				notExtracted(t, s, root, path, api.ErrEntry, nothing)
			case len(want) == 0:
				none++
				notExtracted(t, s, root, path, api.ErrPath, nothing)
			default:
				told++
				extracts(t, s, root, path, want)
			}
		}
		wantCount(t, s, n, m)
		loads(t, s, root, tree)
	}
	if told < 100 || none < 100 {
		t.Errorf("%d paths were there, and %d were not: too few", told, none)
	}
}

// TestP8WhatIsBelow: a path that begins with the bytes of another one need not lie below it.
func TestP8WhatIsBelow(t *testing.T) {
	tree := []api.Entry{
		dir("a"), dir("a/b"), file("a/b/c", "1"), file("a/b!", "2"), dir("a/bb"), file("a/bb/c", "3"), link("a/c", "4"),
		file("a!", "5"), file("a-b", "6"), dir("aa"), file("aa/b", "7"), file("b", "8"),
	}
	s, root := saved(t, tree)
	for path, c := range map[string][2]int{
		"a": {0, 7}, "a/b": {1, 3}, "a/b/c": {2, 3}, "a/b!": {3, 4}, "a/bb": {4, 6}, "a/bb/c": {5, 6}, "a/c": {6, 7},
		"a!": {7, 8}, "a-b": {8, 9}, "aa": {9, 11}, "aa/b": {10, 11}, "b": {11, 12},
	} {
		extracts(t, s, root, path, tree[c[0]:c[1]])
	}
	for _, path := range []string{"!", "a/a", "a/b/", "a/b/b", "a/b/c/d", "a/b!/c", "a/b\"", "a/bbb", "a/c/d", "a/d", "a\"", "a!/b", "a.", "aa/a", "aa/c", "aaa", "b/a", "c", "\xff\xff"} {
		if isPathByWords(path) {
			notExtracted(t, s, root, path, api.ErrPath, nothing)
		} else {
			notExtracted(t, s, root, path, api.ErrEntry, nothing)
		}
	}
}

// TestP8NoPaths: told ahead of all that is wrong with the root.
func TestP8NoPaths(t *testing.T) {
	s := silt.New(math.MaxInt)
	roots := [][32]byte{nothing, mustPut(t, s, []byte("no list")), mustPut(t, s, []byte{1, 1, 0}), mustSave(t, s, []api.Entry{file("a", "hi")}), mustPut(t, s, []byte("spoilt"))}
	s.Spoil(roots[4], 0, 'S')
	seventeen := strings.Repeat("x", 17)
	long := strings.Repeat("fifteen-bytes-x/", 4) // 64 bytes
	for _, path := range []string{
		"", "/", "//", "/a", "a/", "a//a", ".", "..", "./a", "../a", "a/.", "a/..", "a/./a", "a/../a", "\x00", "a\x00", "a/\x00/a",
		seventeen, "a/" + seventeen, seventeen + "/a", long, long + "x", long[:48] + seventeen, strings.Repeat("a/", 32) + "a", strings.Repeat("a/", 32), strings.Repeat("/a", 1<<20),
	} {
		for _, root := range roots {
			notExtracted(t, s, root, path, api.ErrEntry, nothing)
		}
	}
	for _, path := range []string{"...", "..a", ".a", "a.", "\xff", "\x01", "a/...", long[:63], long[:48] + seventeen[:16], strings.Repeat("a/", 31) + "a", strings.Repeat("a/", 31) + "aa", " ", "\\"} {
		notExtracted(t, s, roots[0], path, api.ErrMissing, roots[0])
		notExtracted(t, s, roots[1], path, api.ErrForm, roots[1])
		notExtracted(t, s, roots[2], path, api.ErrPath, nothing)
		notExtracted(t, s, roots[3], path, api.ErrPath, nothing)
		notExtracted(t, s, roots[4], path, api.ErrBroken, roots[4])
	}
}

// TestP8TheTop: it is got whatever the path, and asked for what P7 asks.
func TestP8TheTop(t *testing.T) {
	s := silt.New(math.MaxInt)
	x := pieceOf([]byte("x"))
	mustPut(t, s, x)
	leaf := listOf(1, partOf(1, x))
	mustPut(t, s, leaf)
	for _, top := range [][]byte{
		nil, {0}, {1, 1}, {1, 1, 1}, {1, 0, 0}, {1, 9, 0}, {1, 2, 0}, {1, 1, 0, 0}, x,
		listOf(2, partOf(1, leaf)), listOf(1, partOf(0, x)), listOf(1, partOf(1, x), partOf(0, x)), listOf(1, slices.Repeat([]part{partOf(1, x)}, 9)...), listOf(1, partOf(65536, x), partOf(1, x)),
	} {
		root := mustPut(t, s, top)
		notExtracted(t, s, root, "a", api.ErrForm, root)
	}
}

// headOf is an entry's stream but for the content, whose length is said to be n.
func headOf(e api.Entry, n int) []byte {
	e.Content = ""
	b := streamOf([]api.Entry{e})
	return append(b[:len(b)-4], byte(n>>24), byte(n>>16), byte(n>>8), byte(n))
}

// TestP8Heads: of each head the same is asked, whether it is the one that is sought, stands ahead of it, or ends the search.
func TestP8Heads(t *testing.T) {
	bad := []string{}
	for _, e := range badEntries() {
		// What a stream has no bytes for is another entry there.
		if e.Kind >= 0 && e.Kind < 256 && e.Mode >= 0 && e.Mode < 65536 && e.Time >= 0 && e.Time < 1<<40 {
			bad = append(bad, string(streamOf([]api.Entry{e})))
		}
	}
	m := func(e api.Entry, n int, content string) string { return string(headOf(e, n)) + content }
	k, d, l := file("k", ""), dir("k"), link("k", "")
	bad = append(bad, m(d, 1, "x"), m(d, 2, "xx"), m(d, 1<<24, ""), m(l, 0, ""), m(l, 65, strings.Repeat("x", 65)), m(l, 256, strings.Repeat("x", 256)), m(l, 1<<16+1, "x"))
	for kind := 3; kind < 256; kind += 23 {
		bad = append(bad, m(api.Entry{Path: "k", Kind: kind}, 0, ""), m(api.Entry{Path: "k", Kind: kind}, 1, "x"))
	}
	bad = append(bad, m(noted(k, "1", "", "2", "", "3", "", "4", "", "5", ""), 0, ""), m(api.Entry{Path: "k", Mode: 4096}, 0, ""), m(api.Entry{Path: "k", Mode: 65535}, 0, ""))
	s := silt.New(math.MaxInt)
	put := func(b []byte) { mustPut(t, s, b) }
	root := func(text string) [32]byte { return lay(put, []byte(text), cutsOf([]byte(text)), 8) }
	j, z := string(streamOf([]api.Entry{file("0", "hi")})), string(streamOf([]api.Entry{file("zz", "end")}))
	for i, b := range bad {
		for _, text := range []string{b, j + b, b + z, j + b + z} {
			d := root(text)
			for _, path := range []string{"k", "a", "z", "zz", "k/k"} {
				notExtracted(t, s, d, path, api.ErrStream, d)
			}
		}
		d := root(j + b + z)
		notExtracted(t, s, d, "0", api.ErrStream, d) // it ends behind the head
		extracts(t, s, root(j+z+b), "0", []api.Entry{file("0", "hi")})
		if t.Failed() {
			t.Fatalf("head %d: %q", i, b)
		}
	}
	for _, e := range []api.Entry{k, d, link("k", "x"), link("k", strings.Repeat("x", 64)), noted(k, "1", "", "2", "", "3", "", "4", ""), {Path: "k", Mode: 4095, Time: 1<<40 - 1}} {
		text := string(streamOf([]api.Entry{e}))
		extracts(t, s, root(text), "k", []api.Entry{e})
		extracts(t, s, root(j+text+z), "k", []api.Entry{e})
		extracts(t, s, root(j+text+z), "0", []api.Entry{file("0", "hi")})
		extracts(t, s, root(j+text+z), "zz", []api.Entry{file("zz", "end")})
	}
}

// TestP8HowEntriesStand: paths that do not rise, and parents that are none, up to the end of the search.
func TestP8HowEntriesStand(t *testing.T) {
	s, p := silt.New(math.MaxInt), plainStore{math.MaxInt, map[[32]byte][]byte{}}
	put := func(b []byte) { mustPut(t, s, b); p.put(b) }
	wrong := 0
	for _, tree := range badTrees() {
		for _, tree := range [][]api.Entry{tree, append([]api.Entry{file("!", "hi")}, tree...), append(slices.Clone(tree), file("~", "hi"))} {
			text := streamOf(tree)
			root := lay(put, text, cutsOf(text), 8)
			// Behind them all there is no way around the fault.
			notExtracted(t, s, root, "\xff\xff", api.ErrStream, root)
			for _, path := range pathsAround(tree) {
				if extractsAs(t, s, p, root, path).code == api.ErrStream {
					wrong++
				}
			}
		}
	}
	if wrong < 100 {
		t.Errorf("ErrStream came only %d times", wrong)
	}
}

// TestP8TheTextEnds: at each place of a text, between two entries or not.
func TestP8TheTextEnds(t *testing.T) {
	tree := []api.Entry{dir("a"), noted(file("a/b", "content"), "k", "v", "l", ""), link("a/c", "target"), noted(file("b", "more"), "n", "w"), file("c", "")}
	text := streamOf(tree)
	s, p := silt.New(math.MaxInt), plainStore{math.MaxInt, map[[32]byte][]byte{}}
	put := func(b []byte) { mustPut(t, s, b); p.put(b) }
	codes := map[int]int{}
	for n := range len(text) + 1 {
		root := lay(put, text[:n], ones(text[:n]), 8)
		for _, path := range []string{"0", "a", "a/a", "a/b", "a/c", "a/d", "b", "c", "d"} {
			codes[extractsAs(t, s, p, root, path).code]++
		}
		entries := 0
		for len(streamOf(tree[:entries])) < n {
			entries++
		}
		whole := len(streamOf(tree[:entries])) == n
		if !whole {
			notExtracted(t, s, root, "z", api.ErrStream, root)
		} else if entries > 0 {
			e := tree[entries-1]
			extracts(t, s, root, e.Path, []api.Entry{e}) // the last one of this text: nothing lies below it
		}
	}
	for _, code := range []int{0, api.ErrStream, api.ErrPath} {
		if codes[code] < 20 {
			t.Errorf("the code %d came only %d times", code, codes[code])
		}
	}
}

// TestP8ContentBeyondTheEnd: asked when the head was read, and not where the content is.
func TestP8ContentBeyondTheEnd(t *testing.T) {
	s := silt.New(math.MaxInt)
	ahead := streamOf([]api.Entry{file("a", "hi")})
	for _, n := range []int{0, 1, 5, 6, 7, 255, 256, 65535, 65536, 1 << 24, 1<<31 - 1, 1 << 31, 1<<32 - 2, 1<<32 - 1} {
		text := append(append(slices.Clone(ahead), headOf(file("b", ""), n)...), "five5"...)
		size := len(text)
		// All of the content is lost: where it is left out, or asked for and too long, this is not met.
		root, lost := layGap(t, s, text, size-5, size)
		if n > 5 {
			for _, path := range []string{"a", "b", "c", "aa"} {
				notExtracted(t, s, root, path, api.ErrStream, root)
			}
			continue
		}
		extracts(t, s, root, "a", []api.Entry{file("a", "hi")})
		notExtracted(t, s, root, "aa", api.ErrPath, nothing)
		switch n {
		case 5:
			notExtracted(t, s, root, "b", api.ErrMissing, lost)
			notExtracted(t, s, root, "c", api.ErrPath, nothing)
		default:
			notExtracted(t, s, root, "c", api.ErrMissing, lost) // the next head
		}
	}
	// Up to the end of the longest text.
	room := api.MaxStream - len(ahead) - 15
	for _, more := range []int{0, 1} {
		text := append(append(slices.Clone(ahead), headOf(file("b", ""), room+more)...), make([]byte, room)...)
		root := lay(func(b []byte) { mustPut(t, s, b) }, text, cutsOf(text), 8)
		if more == 1 {
			notExtracted(t, s, root, "b", api.ErrStream, root)
			notExtracted(t, s, root, "a", api.ErrStream, root)
			continue
		}
		extracts(t, s, root, "b", []api.Entry{file("b", string(make([]byte, room)))})
	}
}

// TestP8BytesOneByOne: what is met first is told, byte by byte, and a head is judged when all of it was read.
func TestP8BytesOneByOne(t *testing.T) {
	s := silt.New(math.MaxInt)
	good := streamOf([]api.Entry{noted(file("b", ""), "n", "text")})
	kind := slices.Clone(good)
	kind[0] = 9
	path := slices.Clone(good)
	path[2] = '/'
	mode := slices.Clone(good)
	mode[3] = 0xff
	name := slices.Clone(good)
	name[12] = 0                                                       // its length
	behind := streamOf([]api.Entry{noted(file("a", ""), "n", "text")}) // does not rise
	for _, head := range [][]byte{good, kind, path, mode, name, behind} {
		text := append(streamOf([]api.Entry{file("a", "hi")}), head...)
		start := len(text) - len(head)
		// Each byte of the head lost alone: whatever stands there, it was asked for.
		for at := start; at < len(text); at++ {
			root, lost := layGap(t, s, text, at, at+1)
			for _, path := range []string{"a", "b", "c", "a/b", "aa"} {
				notExtracted(t, s, root, path, api.ErrMissing, lost)
			}
		}
	}
	// The text ends within the head, and a byte ahead of that is lost.
	for end := 1; end < len(good); end++ {
		for at := range end {
			root, lost := layGap(t, s, good[:end], at, at+1)
			notExtracted(t, s, root, "b", api.ErrMissing, lost)
			notExtracted(t, s, root, "a", api.ErrMissing, lost)
		}
		root, _ := layGap(t, s, good[:end], end, end)
		notExtracted(t, s, root, "b", api.ErrStream, root)
	}
	// A path of more bytes than there are, of which the last is lost.
	long := append([]byte{0, 255}, "abcdef"...)
	root, lost := layGap(t, s, long, 7, 8)
	notExtracted(t, s, root, "a", api.ErrMissing, lost)
	// More notes than may be are read all the same.
	many := noted(file("b", ""), slices.Repeat([]string{"n", ""}, 200)...)
	text := streamOf([]api.Entry{many})
	root, lost = layGap(t, s, text, len(text)-1, len(text))
	notExtracted(t, s, root, "b", api.ErrMissing, lost)
	root, _ = layGap(t, s, text, 0, 0)
	notExtracted(t, s, root, "b", api.ErrStream, root)
}

// TestP8WhereItEnds: behind the head of the first entry that comes behind all that could lie below the path.
func TestP8WhereItEnds(t *testing.T) {
	s := silt.New(math.MaxInt)
	tree := []api.Entry{dir("a"), file("a/b", "12"), file("a!", "34"), dir("b"), file("b/c", "56"), file("c", "78")}
	text := streamOf(tree)
	starts := []int{0}
	for i := range tree {
		starts = append(starts, len(streamOf(tree[:i+1])))
	}
	// path, the first entry of the answer, the one behind it, the one that ends it
	for _, c := range []struct {
		path           string
		from, to, ends int
	}{
		{"0", 0, 0, 0}, {"a", 0, 2, 2}, {"a/a", 0, 0, 1}, {"a/b", 1, 2, 2}, {"a/b/c", 0, 0, 2}, {"a/c", 0, 0, 2}, {"a!", 2, 3, 3}, {"a!/x", 0, 0, 3}, {"aa", 0, 0, 3},
		{"b", 3, 5, 5}, {"b/b", 0, 0, 4}, {"b/c", 4, 5, 5}, {"b/d", 0, 0, 5}, {"bb", 0, 0, 5}, {"c", 5, 6, 6}, {"d", 0, 0, 6},
	} {
		end := len(text)
		if c.ends < len(tree) {
			end = starts[c.ends+1] - len(tree[c.ends].Content)
			// What stands behind may be lost, or be nothing of a tree.
			root, lost := layGap(t, s, text, end-1, end)
			notExtracted(t, s, root, c.path, api.ErrMissing, lost)
		}
		strange := slices.Clone(text)
		for at := end; at < len(strange); at++ {
			strange[at] = 0xff
		}
		for _, root := range [][32]byte{first(layGap(t, s, text, end, len(text))), first(layGap(t, s, strange, 0, 0))} {
			if c.from == c.to {
				notExtracted(t, s, root, c.path, api.ErrPath, nothing)
			} else {
				extracts(t, s, root, c.path, tree[c.from:c.to])
			}
		}
	}
}

func first(root, _ [32]byte) [32]byte { return root }

// TestP8NeedsNoMore: of all objects only those that the document's words lead to are there; each of them is needed, and must be whole.
func TestP8NeedsNoMore(t *testing.T) {
	r := rand.New(rand.NewSource(61))
	tree := wideTree(r, 30)
	text := streamOf(tree)
	p := plainStore{math.MaxInt, map[[32]byte][]byte{}}
	for _, object := range objectsOf(text) {
		p.put(object)
	}
	root := rootOf(text)
	fewer := 0
	for _, i := range []int{1, 2, 3, 8, 15, 20, 31, 32} {
		path := tree[i].Path
		_, _, met := p.extract(root, path)
		if len(met) < len(p.has)-3 {
			fewer++
		}
		s := silt.New(math.MaxInt)
		for d := range met {
			mustPut(t, s, p.has[d])
		}
		extracts(t, s, root, path, below(tree, path))
		for d := range met {
			s.Remove(d)
			notExtracted(t, s, root, path, api.ErrMissing, d)
			mustPut(t, s, p.has[d])
			at := r.Intn(len(p.has[d]))
			s.Spoil(d, at, p.has[d][at]+1)
			notExtracted(t, s, root, path, api.ErrBroken, d)
			s.Spoil(d, at, p.has[d][at])
		}
		extracts(t, s, root, path, below(tree, path))
	}
	if fewer < 4 {
		t.Errorf("only %d paths needed few objects", fewer)
	}
}

// TestP8FormsOnTheWay: ErrForm of what a part led to, if a byte of it is asked for; else nothing.
func TestP8FormsOnTheWay(t *testing.T) {
	s := silt.New(math.MaxInt)
	head := streamOf([]api.Entry{file("a", "")})
	head[len(head)-1] = 20
	end := streamOf([]api.Entry{file("b", "hi")})
	a, z := mustPut(t, s, pieceOf(head)), mustPut(t, s, pieceOf(end))
	whole := pieceOf([]byte("0123456789"))
	mustPut(t, s, whole)
	leaf := listOf(1, partOf(10, whole))
	mustPut(t, s, leaf)
	high := func(level int, p part) part {
		for l := 1; l < level; l++ {
			p.d = mustPut(t, s, listOf(l, p))
		}
		return p
	}
	for _, c := range []struct {
		level  int
		object []byte
	}{
		{1, nil}, {1, []byte{0}}, {1, pieceOf([]byte("012345678"))}, {1, pieceOf([]byte("0123456789a"))}, {1, append([]byte{1}, whole[1:]...)}, {1, leaf},
		{2, whole}, {2, listOf(1, partOf(9, whole))}, {2, listOf(1, partOf(10, whole), partOf(1, whole))}, {2, listOf(1)}, {2, listOf(2, partOf(10, leaf))}, {2, append(slices.Clone(leaf), 0)},
		{3, leaf}, {3, listOf(2, partOf(9, leaf))}, {3, listOf(3, partOf(10, leaf))}, {8, listOf(6, partOf(10, leaf))}, {8, leaf},
	} {
		d := mustPut(t, s, c.object)
		root := mustPut(t, s, listOf(c.level, high(c.level, part{len(head), a}), high(c.level, partOf(10, whole)), part{10, d}, high(c.level, part{len(end), z})))
		notExtracted(t, s, root, "a", api.ErrForm, d)
		extracts(t, s, root, "b", []api.Entry{file("b", "hi")})
		notExtracted(t, s, root, "c", api.ErrPath, nothing)
		notExtracted(t, s, root, "0", api.ErrPath, nothing)
		root = mustPut(t, s, listOf(c.level, high(c.level, part{len(end), z}), part{10, d}))
		notExtracted(t, s, root, "b", api.ErrForm, d)
		notExtracted(t, s, root, "c", api.ErrForm, d)
		notExtracted(t, s, root, "a", api.ErrPath, nothing)
	}
}

// oddEntries are entries of a small world, now and then in no order, or such as may not be.
func oddEntries(r *rand.Rand) []api.Entry {
	parts := []string{"a", "b", "a!"}
	var tree []api.Entry
	for range 1 + r.Intn(7) {
		path := parts[r.Intn(3)]
		for r.Intn(2) == 0 && len(path) < 10 {
			path += "/" + parts[r.Intn(3)]
		}
		e := []api.Entry{dir(path), dir(path), file(path, string(noise(r, r.Intn(30), 256))), link(path, "target")}[r.Intn(4)]
		if r.Intn(3) == 0 {
			e = noted(e, "n", string(noise(r, r.Intn(10), 3)))
		}
		tree = append(tree, e)
	}
	if r.Intn(8) > 0 {
		slices.SortFunc(tree, func(a, b api.Entry) int {
			if rises(a.Path, b.Path) {
				return -1
			}
			return 1
		})
		tree = slices.CompactFunc(tree, func(a, b api.Entry) bool { return a.Path == b.Path })
	}
	if r.Intn(8) > 0 {
		tree = slices.DeleteFunc(tree, func(e api.Entry) bool {
			at := strings.LastIndex(e.Path, "/")
			return at >= 0 && !slices.ContainsFunc(tree, func(f api.Entry) bool { return f.Path == e.Path[:at] && f.Kind == api.Dir })
		})
	}
	if r.Intn(10) == 0 {
		bad := badEntries()
		tree = slices.Insert(tree, r.Intn(len(tree)+1), bad[r.Intn(len(bad))])
	}
	return tree
}

// TestP8OddTexts holds Extract against the document's words: texts of all kinds, cut and listed in any way, with objects that are lost or spoilt.
func TestP8OddTexts(t *testing.T) {
	r := rand.New(rand.NewSource(62))
	codes := map[int]int{}
	for range 1500 {
		s, p := silt.New(math.MaxInt), plainStore{math.MaxInt, map[[32]byte][]byte{}}
		var all [][]byte
		put := func(b []byte) { mustPut(t, s, b); p.put(b); all = append(all, bytes.Clone(b)) }
		tree := oddEntries(r)
		text := streamOf(tree)
		if len(text) > 0 && r.Intn(5) == 0 {
			text[r.Intn(len(text))] = byte(r.Intn(4) * r.Intn(64))
		}
		if r.Intn(6) == 0 {
			text = text[:r.Intn(len(text)+1)]
		}
		var lengths []int
		for left := len(text); left > 0; left -= lengths[len(lengths)-1] {
			lengths = append(lengths, 1+r.Intn(min(left, 1+r.Intn(40))))
		}
		root := lay(put, text, lengths, 4+r.Intn(5))
		for range r.Intn(3) {
			b := all[r.Intn(len(all))]
			if d := sha256.Sum256(b); r.Intn(2) == 0 {
				s.Remove(d)
				p.remove(d)
			} else if len(b) > 1 {
				s.Spoil(d, 1, b[1]+1)
				p.spoil(d, 1, b[1]+1)
			}
		}
		for _, path := range []string{"a", "b", "a!", "a/a", "a/b", "b/a!", "b/b/b", "c", "0", "a/"} {
			codes[extractsAs(t, s, p, root, path).code]++
		}
	}
	for _, code := range []int{0, api.ErrMissing, api.ErrBroken, api.ErrStream, api.ErrPath, api.ErrEntry} {
		if codes[code] < 300 {
			t.Errorf("the code %d came only %d times: the texts are too plain", code, codes[code])
		}
	}
}

// TestP8TangledStores: what stands there is seldom a tree, and the way is full of faults.
func TestP8TangledStores(t *testing.T) {
	r := rand.New(rand.NewSource(63))
	codes := map[int]int{}
	for range 40 {
		s, p := silt.New(math.MaxInt), plainStore{math.MaxInt, map[[32]byte][]byte{}}
		put := func(b []byte) { mustPut(t, s, b); p.put(b) }
		spoil := func(d [32]byte, at int, with byte) { s.Spoil(d, at, with); p.spoil(d, at, with) }
		remove := func(d [32]byte) { s.Remove(d); p.remove(d) }
		for _, k := range tangle(r, put, spoil, remove) {
			for _, path := range []string{"d", "d/e/1001", "z"} {
				codes[extractsAs(t, s, p, k.d, path).code]++
			}
		}
		wantCount(t, s, len(p.has), p.size())
	}
	for _, code := range []int{0, api.ErrMissing, api.ErrBroken, api.ErrForm, api.ErrStream} {
		if codes[code] < 20 {
			t.Errorf("the code %d came only %d times: the stores are too plain", code, codes[code])
		}
	}
}

// TestP8OtherListsMayMakeTheText: Extract does not ask whether Save would have made them.
func TestP8OtherListsMayMakeTheText(t *testing.T) {
	r := rand.New(rand.NewSource(64))
	tree := wideTree(r, 6)
	text := streamOf(tree)
	s := silt.New(math.MaxInt)
	put := func(b []byte) { mustPut(t, s, b) }
	for fan := 4; fan <= 8; fan++ {
		root := lay(put, text, ones(text), fan)
		for _, e := range tree {
			extracts(t, s, root, e.Path, below(tree, e.Path))
		}
		notLoaded(t, s, root, api.ErrStream, root)
	}
}

func TestP1ExtractAndSweepFaultsAreNew(t *testing.T) {
	s := silt.New(100000)
	lost := sha256.Sum256([]byte("lost"))
	form := mustPut(t, s, listOf(2, part{1, lost}))
	deep := mustPut(t, s, listOf(1, part{1, lost}))
	high := mustPut(t, s, listOf(2, part{1, lost}, part{1, lost}))
	x := mustPut(t, s, pieceOf([]byte("x")))
	text := mustPut(t, s, listOf(1, part{1, x}))
	empty := mustSave(t, s, nil)
	n, m := s.Count()
	for range 2 {
		_, entry := s.Extract(empty, "")
		_, none := s.Extract(empty, "a")
		_, down := s.Extract(deep, "a")
		_, top := s.Extract(form, "a")
		_, stream := s.Extract(text, "a")
		_, sweep := s.Sweep([][32]byte{empty, high})
		_, sweepTop := s.Sweep([][32]byte{form})
		wantFault(t, "Extract", entry, api.ErrEntry)
		wantFault(t, "Extract", none, api.ErrPath)
		wantFaultOf(t, "Extract", down, api.ErrMissing, lost)
		wantFaultOf(t, "Extract", top, api.ErrForm, form)
		wantFaultOf(t, "Extract", stream, api.ErrStream, text)
		wantFaultOf(t, "Sweep", sweep, api.ErrMissing, lost)
		wantFaultOf(t, "Sweep", sweepTop, api.ErrForm, form)
		for _, err := range []error{entry, none, down, top, stream, sweep, sweepTop} {
			*err.(*api.Fault) = api.Fault{Code: 77, Digest: [32]byte{7}}
		}
	}
	wantCount(t, s, n, m)
}

func TestP2WhatIsExtractedIsNewMemory(t *testing.T) {
	tree := []api.Entry{noted(dir("a"), "k", "v"), noted(file("a/b", "text"), "k", "v", "l", "w"), noted(link("a/c", "t"), "1", "", "2", "", "3", ""), file("a/d", strings.Repeat("long ", 100)), file("z", "")}
	s, root := saved(t, tree)
	for j := range 4 {
		one, err := s.Extract(root, "a")
		wantNoError(t, "Extract", err)
		two, err := s.Extract(root, "a")
		wantNoError(t, "Extract", err)
		// Neither the lists of one answer nor those of two share room.
		scribble(one[j].Notes, api.Note{Name: "spoilt"})
		for k := range one {
			if k != j && !reflect.DeepEqual(one[k], tree[k]) {
				t.Errorf("the notes of entry %d share room with entry %d", j, k)
			}
		}
		scribble(one, api.Entry{Path: "spoilt"})
		if !reflect.DeepEqual(two, tree[:4]) {
			t.Fatal("two answers of Extract share room")
		}
		extracts(t, s, root, "a", tree[:4])
		loads(t, s, root, tree)
		// Nor do they change with the store.
		for _, object := range objectsOf(streamOf(tree)) {
			for at := range object {
				s.Spoil(sha256.Sum256(object), at, 0xee)
			}
		}
		if !reflect.DeepEqual(two, tree[:4]) {
			t.Fatal("Spoil changed what was told")
		}
		mustSave(t, s, tree)
	}
}

// TestP2SeveralExtract: while others save, spoil, remove and sweep.
func TestP2SeveralExtract(t *testing.T) {
	r := rand.New(rand.NewSource(65))
	base := wideTree(r, 12)
	var trees [][]api.Entry
	var roots [][32]byte
	for i := range 6 {
		tree := slices.Clone(base)
		tree[3+i].Content += "!"
		trees = append(trees, tree)
		roots = append(roots, rootOf(streamOf(tree)))
	}
	s := silt.New(math.MaxInt)
	var all sync.WaitGroup
	for w, tree := range trees {
		objects := objectsOf(streamOf(tree))
		all.Go(func() {
			for i := range 40 {
				if _, err := s.Save(tree); err != nil {
					t.Errorf("Save: %v", err)
					return
				}
				other := (w + i) % len(trees)
				got, err := s.Extract(roots[other], "d/e")
				if err == nil && !reflect.DeepEqual(got, below(trees[other], "d/e")) || err != nil && (got != nil || !errors.Is(err, api.Lost)) {
					t.Errorf("Extract = %v, %v", got, err)
					return
				}
				d := sha256.Sum256(objects[(w*7+i)%len(objects)])
				switch i % 3 {
				case 0:
					s.Remove(d)
				case 1:
					s.Spoil(d, 1, byte(i))
				default:
					if n, err := s.Sweep([][32]byte{roots[w], roots[other]}); err != nil && (n != 0 || !errors.Is(err, api.Lost)) {
						t.Errorf("Sweep = %d, %v", n, err)
						return
					}
				}
			}
		})
	}
	all.Wait()
	for i, tree := range trees {
		mustSave(t, s, tree)
		extracts(t, s, roots[i], "d", below(tree, "d"))
	}
}
