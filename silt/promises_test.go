package silt_test

import (
	"bytes"
	"math/rand"
	"reflect"
	"slices"
	"strings"
	"sync"
	"testing"

	"silt/api"
	"silt/silt"
)

func TestP1NoPanicLeavesACall(t *testing.T) {
	r := rand.New(rand.NewSource(9))
	var zero silt.Cutter
	var none *silt.Cutter
	for i := range 3000 {
		b := noise(r, r.Intn(300), []int{2, 5, 256}[i%3])
		silt.Digest(b)
		silt.Cuts(b)
		if tree, err := silt.Tree(b); err != nil && tree != nil {
			t.Fatalf("Tree(%q) = %v beside an error", b, tree)
		}
		for _, c := range []*silt.Cutter{silt.NewCutter(), &zero, none} {
			c.Write(b)
			c.Write(nil)
			c.Close()
			c.Close()
		}
	}
	if l := zero.Write(make([]byte, 40)); !slices.Equal(l, []int{32}) {
		t.Errorf("Write to a cutter of its zero value: %v", l)
	}
	if l := append(none.Write(make([]byte, 40)), none.Close()...); len(l) != 0 {
		t.Errorf("a nil cutter has chunks: %v", l)
	}
	huge := strings.Repeat("/a", 1<<22)
	for _, e := range []api.Entry{file(huge, ""), link("a", huge), noted(file("a", ""), huge, huge), {Path: "a", Notes: make([]api.Note, 1<<20)}} {
		_, err := silt.Stream([]api.Entry{e})
		wantFault(t, "Stream", err, api.ErrEntry)
	}
	_, err := silt.Tree(make([]byte, 1<<24))
	wantFault(t, "Tree", err, api.ErrLong)
}

func TestP1TheErrorNamedFirst(t *testing.T) {
	big := file("b", strings.Repeat("x", api.MaxStream))
	_, err := silt.Stream([]api.Entry{big})
	wantFault(t, "Stream, too long", err, api.ErrLong)
	for _, tree := range [][]api.Entry{
		{big, file("a", "")}, {big, big}, {big, file("c/d", "")}, {big, link("c", "")}, {link("a", ""), big}, {{Path: "b", Kind: 7, Content: big.Content}},
	} {
		_, err := silt.Stream(tree)
		wantFault(t, "Stream, too long and no tree", err, api.ErrEntry)
	}
	_, err = silt.Tree(bytes.Repeat([]byte{9}, api.MaxStream+1))
	wantFault(t, "Tree, too long and no stream", err, api.ErrLong)
	_, err = silt.Tree(bytes.Repeat([]byte{9}, api.MaxStream))
	wantFault(t, "Tree, no stream", err, api.ErrStream)
}

// TestP1FaultsAreNew: who writes into a fault changes no other.
func TestP1FaultsAreNew(t *testing.T) {
	for range 2 {
		_, a := silt.Stream([]api.Entry{file("", "")})
		_, b := silt.Stream([]api.Entry{file("a", strings.Repeat("x", api.MaxStream))})
		_, c := silt.Tree([]byte{1})
		_, d := silt.Tree(make([]byte, api.MaxStream+1))
		for i, err := range []error{a, b, c, d} {
			wantFault(t, "a fault", err, []int{api.ErrEntry, api.ErrLong, api.ErrStream, api.ErrLong}[i])
			err.(*api.Fault).Code = 77
		}
	}
}

// roomy lays b out ahead of spare room that is full of marks.
func roomy(b []byte) (list, whole []byte) {
	whole = append(bytes.Clone(b), bytes.Repeat([]byte{0xaa}, 200)...)
	return whole[:len(b)], whole
}

// scribble writes over a list and its spare room.
func scribble[T any](l []T, with T) {
	l = l[:cap(l)]
	for i := range l {
		l[i] = with
	}
}

func TestP2BytesHandedInStay(t *testing.T) {
	r := rand.New(rand.NewSource(10))
	texts := [][]byte{nil, noise(r, 3000, 256), make([]byte, 100), make([]byte, 55), make([]byte, 56)}
	for _, tree := range someTrees() {
		texts = append(texts, streamOf(tree))
	}
	for _, text := range texts {
		list, whole := roomy(text)
		kept := bytes.Clone(whole)
		silt.Digest(list)
		silt.Cuts(list)
		silt.Tree(list)
		c := silt.NewCutter()
		c.Write(list)
		c.Close()
		if !bytes.Equal(whole, kept) {
			t.Fatalf("a call wrote into %.60q or behind it", text)
		}
	}
}

func TestP2TreesHandedInStay(t *testing.T) {
	mark := noted(file("mark", "mark"), "m", "m")
	for i, tree := range someTrees() {
		whole := append(slices.Clone(tree), mark, mark)
		for j := range tree {
			whole[j].Notes = append(slices.Clone(tree[j].Notes), mark.Notes[0])[:len(tree[j].Notes)]
		}
		if _, err := silt.Stream(whole[:len(tree)]); err != nil {
			t.Fatal(err)
		}
		for j, e := range whole {
			want := mark
			if j < len(tree) {
				want = tree[j]
				if n := e.Notes[:len(e.Notes)+1]; n[len(e.Notes)] != mark.Notes[0] {
					t.Errorf("tree %d: Stream wrote behind the notes of entry %d", i, j)
				}
			}
			if len(e.Notes) == 0 {
				e.Notes = nil
			}
			if !reflect.DeepEqual(e, want) {
				t.Errorf("tree %d: Stream changed entry %d: %v, want %v", i, j, e, want)
			}
		}
	}
}

func TestP2NothingHandedInIsKept(t *testing.T) {
	for i, tree := range someTrees() {
		stream := streamOf(tree)
		got, err := silt.Tree(stream)
		wantNoError(t, "Tree", err)
		scribble(stream, 0xbb)
		if len(tree) > 0 && !reflect.DeepEqual(got, tree) {
			t.Errorf("tree %d: the answer of Tree changed with its argument: %v", i, got)
		}
	}
	r := rand.New(rand.NewSource(11))
	text := noise(r, 3000, 256)
	c := silt.NewCutter()
	var got []int
	for at := 0; at < len(text); at += 10 {
		piece := bytes.Clone(text[at : at+10])
		got = append(got, c.Write(piece)...)
		scribble(piece, 0xbb)
	}
	if got = append(got, c.Close()...); !slices.Equal(got, cutsOf(text)) {
		t.Errorf("a cutter kept its pieces: %v, want %v", got, cutsOf(text))
	}
}

func TestP2AnswersAreNewMemory(t *testing.T) {
	r := rand.New(rand.NewSource(12))
	text := noise(r, 3000, 256)
	over, rest := chunksOf(text)
	c := silt.NewCutter()
	for range 3 {
		l := silt.Cuts(text)
		if !slices.Equal(l, cutsOf(text)) {
			t.Fatalf("Cuts = %v, want %v", l, cutsOf(text))
		}
		first, second := c.Write(text[:2000]), c.Write(text[2000:])
		last := c.Close()
		held := slices.Clone(first)
		scribble(l, -1)
		scribble(second, -2)
		if !slices.Equal(first, held) || !slices.Equal(first, over[:len(first)]) || !slices.Equal(last, []int{rest}) {
			t.Fatalf("a cutter's answers: %v and %v, want %v and %d", first, last, over, rest)
		}
		scribble(first, -1)
		scribble(last, -3)
	}
	for _, tree := range someTrees() {
		for range 2 {
			s, err := silt.Stream(tree)
			wantNoError(t, "Stream", err)
			if !bytes.Equal(s, streamOf(tree)) {
				t.Fatalf("Stream = %q, want %q", s, streamOf(tree))
			}
			scribble(s, 0xcc)
		}
	}
}

// TestP2NotesShareNoRoom: the lists of a tree that was read are apart, spare room too.
func TestP2NotesShareNoRoom(t *testing.T) {
	for i, tree := range someTrees() {
		for j := range tree {
			got, err := silt.Tree(streamOf(tree))
			wantNoError(t, "Tree", err)
			scribble(got[j].Notes, api.Note{Name: "spoilt", Text: "spoilt"})
			for k := range tree {
				if k != j && !reflect.DeepEqual(got[k], tree[k]) {
					t.Errorf("tree %d: the notes of entry %d share room with entry %d", i, j, k)
				}
			}
		}
		got, err := silt.Tree(streamOf(tree))
		wantNoError(t, "Tree", err)
		scribble(got, api.Entry{Path: "spoilt"})
		if got, err = silt.Tree(streamOf(tree)); err != nil || len(tree) > 0 && !reflect.DeepEqual(got, tree) {
			t.Errorf("tree %d: Tree = %v, %v behind a call whose answer was written over", i, got, err)
		}
	}
}

// TestP2AnswersHangOnArgumentsAlone: other calls, ahead and at the same time, change nothing.
func TestP2AnswersHangOnArgumentsAlone(t *testing.T) {
	r := rand.New(rand.NewSource(13))
	text := noise(r, 3000, 256)
	tree := someTrees()[11]
	digest, cuts, stream := silt.Digest(text), cutsOf(text), streamOf(tree)
	var all sync.WaitGroup
	for i := range 8 {
		all.Go(func() {
			for range 50 {
				silt.Digest(text[i:])
				silt.Cuts(text[i:])
				silt.NewCutter().Write(text[i:])
				silt.Tree(text[:i])
				got, err := silt.Stream(tree)
				back, mistake := silt.Tree(stream)
				if silt.Digest(text) != digest || !slices.Equal(silt.Cuts(text), cuts) || err != nil || !bytes.Equal(got, stream) || mistake != nil || !reflect.DeepEqual(back, tree) {
					t.Error("an answer hangs on other calls")
					return
				}
			}
		})
	}
	all.Wait()
}
