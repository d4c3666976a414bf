package silt_test

import (
	"bytes"
	"fmt"
	"math"
	"math/rand"
	"reflect"
	"strings"
	"testing"

	"silt/api"
	"silt/silt"
)

func TestP4StreamOfTheDocument(t *testing.T) {
	want := []byte{0, 1, 0x61, 1, 0xa4, 0, 0, 0, 0, 1, 0, 0, 0, 0, 2, 0x68, 0x69}
	got, err := silt.Stream([]api.Entry{{Path: "a", Mode: 420, Time: 1, Content: "hi"}})
	wantNoError(t, "Stream", err)
	if !bytes.Equal(got, want) {
		t.Errorf("Stream = % x, want % x", got, want)
	}
}

func TestP4ThereAndBack(t *testing.T) {
	for i, tree := range someTrees() {
		stream, err := silt.Stream(tree)
		wantNoError(t, "Stream", err)
		if !bytes.Equal(stream, streamOf(tree)) {
			t.Fatalf("tree %d: Stream = %q, want %q", i, stream, streamOf(tree))
		}
		back, err := silt.Tree(stream)
		wantNoError(t, "Tree", err)
		if len(back) != len(tree) || len(tree) > 0 && !reflect.DeepEqual(back, tree) {
			t.Fatalf("tree %d: Tree = %v, want %v", i, back, tree)
		}
	}
}

// badEntries may not be, each alone at the top.
func badEntries() []api.Entry {
	long := strings.Repeat("x", 65)
	return []api.Entry{
		file("", ""), file("/", ""), file("/a", ""), file("a/", ""), file(".", ""), file("..", ""), file("\x00", ""), file("a\x00b", ""),
		file(long[:17], ""), dir(long[:17]), link(long[:17], "x"),
		dir(""), dir("."), link("..", "x"),
		link("a", ""), link("a", long), {Path: "a", Kind: api.Dir, Content: "x"},
		{Path: "a", Kind: 3}, {Path: "a", Kind: -1}, {Path: "a", Kind: 256}, {Path: "a", Kind: math.MaxInt}, {Path: "a", Kind: math.MinInt},
		{Path: "a", Mode: 4096}, {Path: "a", Mode: -1}, {Path: "a", Mode: 65536}, {Path: "a", Mode: math.MaxInt}, {Path: "a", Mode: math.MinInt},
		{Path: "a", Time: 1 << 40}, {Path: "a", Time: -1}, {Path: "a", Time: math.MaxInt}, {Path: "a", Time: math.MinInt},
		noted(file("a", ""), "", ""), noted(file("a", ""), "a", "", "", ""),
		noted(file("a", ""), "b", "", "a", ""), noted(file("a", ""), "a", "", "a", ""), noted(file("a", ""), "ab", "", "a", ""), noted(file("a", ""), "\xff", "", "z", ""),
		noted(file("a", ""), "a", "", "c", "", "b", ""),
		noted(file("a", ""), long[:17], ""), noted(file("a", ""), "a", long), noted(dir("a"), "a", "", "b", long),
		noted(file("a", ""), "1", "", "2", "", "3", "", "4", "", "5", ""),
	}
}

func TestP4EntriesThatMayNotBe(t *testing.T) {
	for i, e := range badEntries() {
		for _, tree := range [][]api.Entry{{e}, {file("!", "x"), e}, {e, file("zz", "x")}} {
			stream, err := silt.Stream(tree)
			wantFault(t, fmt.Sprint("Stream of entry ", i), err, api.ErrEntry)
			if stream != nil {
				t.Errorf("Stream of %v = %q beside an error", tree, stream)
			}
		}
	}
}

// badTrees are of entries that may be, and are no trees.
func badTrees() [][]api.Entry {
	deep := strings.Repeat("fifteen-bytes-x/", 4)
	return [][]api.Entry{
		{file("a", ""), file("a", "")},
		{dir("a"), file("a", "")},
		{file("b", ""), file("a", "")},
		{file("ab", ""), file("a", "")},
		{file("\xff", ""), file("z", "")},
		{file("a!", ""), dir("a")},
		{dir("a"), file("a!", ""), file("a/b", "")},
		{dir("a"), dir("a/b"), file("a/c", ""), file("a/b/d", "")},
		{file("a/b", "")},
		{file("a/b", ""), dir("a")},
		{file("a", ""), file("a/b", "")},
		{link("a", "b"), file("a/b", "")},
		{dir("a"), file("a/b/c", "")},
		{dir("a"), file("b/c", "")},
		{dir("a"), file("ab/c", "")},
		{dir("ab"), file("ab/c", ""), file("b/c", "")},
		{dir("a"), dir("a/b"), file("a/b/c", ""), file("b/c", "")},
		{dir("a"), file("a/b", ""), file("a/b/c", "")},
		{dir(deep[:15]), dir(deep[:31]), dir(deep[:47]), dir(deep[:63]), file(deep+"x", "")},
		{dir("a"), file("a/", "")},
		{dir("a"), file("a//b", "")},
		{dir("a"), dir("a/"), file("a//b", "")},
		{dir("a"), file("a/.", "")},
		{dir("a"), file("a/..", "")},
		{dir("a"), dir("a/.."), file("a/../b", "")},
	}
}

func TestP4EntriesThatAreNoTree(t *testing.T) {
	for i, tree := range badTrees() {
		stream, err := silt.Stream(tree)
		wantFault(t, fmt.Sprint("Stream of tree ", i), err, api.ErrEntry)
		if stream != nil {
			t.Errorf("tree %d: Stream = %q beside an error", i, stream)
		}
	}
}

func TestP4TreesByTheDocumentsWords(t *testing.T) {
	r := rand.New(rand.NewSource(8))
	paths := []string{"a", "a/a", "a/b", "a/a/a", "a/b/a", "a!", "a!/a", "aa", "aa/a", "b", "b/a"}
	good := 0
	for range 200000 {
		var tree []api.Entry
		at := 0
		for range r.Intn(5) {
			at += r.Intn(4)
			if r.Intn(20) == 0 {
				at -= 5
			}
			kind := []int{api.File, api.Dir, api.Dir, api.Link}[r.Intn(4)]
			content := ""
			if kind == api.Link {
				content = "t"
			}
			tree = append(tree, api.Entry{Path: paths[min(max(at, 0), len(paths)-1)], Kind: kind, Content: content})
		}
		_, err := silt.Stream(tree)
		if inOrder(tree) != (err == nil) {
			t.Fatalf("Stream(%v): %v", tree, err)
		}
		_, err = silt.Tree(streamOf(tree))
		if inOrder(tree) != (err == nil) {
			t.Fatalf("Tree of the stream of %v: %v", tree, err)
		}
		if err == nil && len(tree) > 2 {
			good++
		}
	}
	if good < 1000 {
		t.Errorf("the test itself made but %d trees of three entries", good)
	}
}

func TestP4StreamsThatAreTooLong(t *testing.T) {
	const head = 15 // bytes of an entry with a path of one byte
	room := strings.Repeat("x", api.MaxStream+1)
	for _, c := range []struct {
		tree []api.Entry
		ok   bool
	}{
		{[]api.Entry{file("a", room[:api.MaxStream-head])}, true},
		{[]api.Entry{file("a", room[:api.MaxStream-head+1])}, false},
		{[]api.Entry{file("a", room[:api.MaxStream-2*head]), file("b", "")}, true},
		{[]api.Entry{file("a", room[:api.MaxStream-2*head+1]), file("b", "")}, false},
		{[]api.Entry{file("a", room[:api.MaxStream-2*head]), file("b", "x")}, false},
		{[]api.Entry{file("a", room[:api.MaxStream-head]), dir("b")}, false},
		{[]api.Entry{file("a", room), file("b", room), file("c", "")}, false},
	} {
		stream, err := silt.Stream(c.tree)
		if !c.ok {
			wantFault(t, "a long Stream", err, api.ErrLong)
			if stream != nil {
				t.Errorf("%d bytes beside an error", len(stream))
			}
			continue
		}
		wantNoError(t, "a Stream of MaxStream bytes", err)
		if len(stream) != api.MaxStream {
			t.Errorf("%d bytes, want %d", len(stream), api.MaxStream)
		}
		back, err := silt.Tree(stream)
		wantNoError(t, "a Tree of MaxStream bytes", err)
		if !reflect.DeepEqual(back, c.tree) {
			t.Error("a Tree of MaxStream bytes is another one")
		}
		longer := append(stream, streamOf([]api.Entry{file("z", "")})...)
		back, err = silt.Tree(longer)
		wantFault(t, "a long Tree", err, api.ErrLong)
		if back != nil {
			t.Errorf("%d entries beside an error", len(back))
		}
	}
}

func TestP4ManyEntriesAreTooLong(t *testing.T) {
	var tree []api.Entry
	for i := range 65536 / 17 {
		tree = append(tree, file(string([]byte{'a', byte(i/200 + 48), byte(i%200 + 48)}), ""))
	}
	stream, err := silt.Stream(tree[:65536/17])
	wantNoError(t, "Stream", err)
	if len(stream) != 65536/17*17 {
		t.Fatalf("%d bytes", len(stream))
	}
	_, err = silt.Stream(append(tree, file("b", "")))
	wantFault(t, "Stream of one entry more", err, api.ErrLong)
}

func TestP4StreamsThatAreNone(t *testing.T) {
	ok := streamOf([]api.Entry{file("b", "hi")})
	var streams [][]byte
	for _, e := range badEntries() {
		if 0 <= e.Kind && e.Kind < 256 && 0 <= e.Mode && e.Mode < 65536 && 0 <= e.Time && e.Time < 1<<40 {
			streams = append(streams, streamOf([]api.Entry{e}))
		}
	}
	for _, tree := range badTrees() {
		streams = append(streams, streamOf(tree))
	}
	for n := 1; n < len(ok); n++ {
		streams = append(streams, ok[:n], append(bytes.Clone(ok), ok[:n]...))
	}
	streams = append(streams, append(bytes.Clone(ok), 0), append(bytes.Clone(ok), ok...), bytes.Repeat([]byte{0xff}, 100), make([]byte, api.MaxStream))
	for length := range uint32(40) {
		if length != 2 {
			streams = append(streams, append(append(bytes.Clone(ok[:11]), 0, 0, 0, byte(length)), "hi"...))
		}
		streams = append(streams, append(append(bytes.Clone(ok[:11]), byte(1<<(length%8)), 0, 0, 2), "hi"...))
	}
	for _, s := range streams {
		tree, err := silt.Tree(s)
		wantFault(t, fmt.Sprintf("Tree(%.60q)", s), err, api.ErrStream)
		if tree != nil {
			t.Errorf("Tree(%.60q) = %v beside an error", s, tree)
		}
	}
}

// TestP4OnlyStreamsAreRead: whatever Tree reads has, as a tree, just this stream.
func TestP4OnlyStreamsAreRead(t *testing.T) {
	read := 0
	for _, tree := range someTrees() {
		stream := streamOf(tree)
		for at := range stream {
			for _, with := range []byte{0, 1, 2, 3, 4, 5, '.', '/', 'a', 'z', 16, 17, 64, 65, 128, 255, stream[at] + 1, stream[at] - 1} {
				spoilt := bytes.Clone(stream)
				spoilt[at] = with
				got, err := silt.Tree(spoilt)
				if err != nil {
					wantFault(t, "Tree", err, api.ErrStream)
					continue
				}
				read++
				if !inOrder(got) || !bytes.Equal(streamOf(got), spoilt) {
					t.Fatalf("Tree(%q) = %v", spoilt, got)
				}
				if again, err := silt.Stream(got); err != nil || !bytes.Equal(again, spoilt) {
					t.Fatalf("Tree(%q) = %v, whose Stream is %q, %v", spoilt, got, again, err)
				}
			}
		}
	}
	if read < 1000 {
		t.Errorf("the test itself made but %d streams", read)
	}
}
