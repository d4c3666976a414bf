package silt_test

import (
	"bytes"
	"crypto/sha256"
	"encoding/binary"
	"errors"
	"fmt"
	"math"
	"math/rand"
	"reflect"
	"slices"
	"testing"

	"silt/api"
	"silt/silt"
)

// wantFaultOf: err is a fault of this code that speaks of the object under d, and is told as a loss if it is one.
func wantFaultOf(t *testing.T, what string, err error, code int, d [32]byte) {
	t.Helper()
	f, ok := err.(*api.Fault)
	if !ok || f == nil {
		t.Fatalf("%s: the error is %v, want a fault of the code %d", what, err, code)
	}
	if f.Code != code || f.Digest != d {
		t.Fatalf("%s: code %d of %x, want code %d of %x", what, f.Code, f.Digest, code, d)
	}
	if errors.Is(err, api.Lost) != (code == api.ErrMissing || code == api.ErrBroken) {
		t.Fatalf("%s: code %d, and errors.Is tells a loss: %v", what, code, errors.Is(err, api.Lost))
	}
}

// loads: Load tells this tree.
func loads(t *testing.T, s *silt.Store, root [32]byte, tree []api.Entry) {
	t.Helper()
	got, err := s.Load(root)
	wantNoError(t, "Load", err)
	if len(got) != len(tree) || len(tree) > 0 && !reflect.DeepEqual(got, tree) {
		t.Fatalf("Load is another tree: %.300s, want %.300s", fmt.Sprint(got), fmt.Sprint(tree))
	}
}

// notLoaded: Load answers this error, and nothing beside it.
func notLoaded(t *testing.T, s *silt.Store, root [32]byte, code int, of [32]byte) {
	t.Helper()
	got, err := s.Load(root)
	wantFaultOf(t, "Load", err, code, of)
	if got != nil {
		t.Fatalf("Load = %.300s beside an error", fmt.Sprint(got))
	}
}

// reads: Read tells these bytes.
func reads(t *testing.T, s *silt.Store, root [32]byte, from int, want []byte) {
	t.Helper()
	got, err := s.Read(root, from, len(want))
	wantNoError(t, fmt.Sprint("Read of ", len(want), " bytes from ", from, " on"), err)
	if !bytes.Equal(got, want) {
		t.Fatalf("Read of %d bytes from %d on = %.100q, want %.100q", len(want), from, got, want)
	}
}

// notRead: Read answers this error, and nothing beside it.
func notRead(t *testing.T, s *silt.Store, root [32]byte, from, n, code int, of [32]byte) {
	t.Helper()
	got, err := s.Read(root, from, n)
	wantFaultOf(t, fmt.Sprint("Read of ", n, " bytes from ", from, " on"), err, code, of)
	if got != nil {
		t.Fatalf("Read = %.100q beside an error", got)
	}
}

var nothing [32]byte

func TestP7LoadWhatWasSaved(t *testing.T) {
	r := rand.New(rand.NewSource(40))
	trees := append(someTrees(), greatTrees(t, r)...)
	trees = append(trees, wideTree(r, 5), wideTree(r, 150))
	for _, n := range []int{1, 8, 9, 64, 65, 513} {
		trees = append(trees, treeOfChunks(t, r, n))
	}
	one := silt.New(math.MaxInt)
	var roots [][32]byte
	for _, tree := range trees {
		s, root := saved(t, tree)
		objects, size := s.Count()
		loads(t, s, root, tree)
		loads(t, s, root, tree)
		wantCount(t, s, objects, size)
		roots = append(roots, mustSave(t, one, tree))
	}
	for i, tree := range trees {
		loads(t, one, roots[i], tree)
	}
}

// TestP7LoadFindsWhatIsLost: each object of a tree, missing or spoilt at any place, is told; and nothing is changed by that.
func TestP7LoadFindsWhatIsLost(t *testing.T) {
	r := rand.New(rand.NewSource(41))
	for _, tree := range [][]api.Entry{nil, {file("a", "hi")}, treeOfChunks(t, r, 9), wideTree(r, 40)} {
		s, root := saved(t, tree)
		for _, object := range objectsOf(streamOf(tree)) {
			d := sha256.Sum256(object)
			at := r.Intn(len(object))
			s.Spoil(d, at, object[at]^byte(1+r.Intn(255)))
			notLoaded(t, s, root, api.ErrBroken, d)
			notLoaded(t, s, root, api.ErrBroken, d)
			s.Spoil(d, at, object[at])
			loads(t, s, root, tree)
			s.Remove(d)
			n, m := s.Count()
			notLoaded(t, s, root, api.ErrMissing, d)
			wantCount(t, s, n, m)
			wantLost(t, s, d, api.ErrMissing)
			mustPut(t, s, object)
			loads(t, s, root, tree)
		}
	}
}

func TestP7RootsOfNothing(t *testing.T) {
	s := silt.New(1000)
	for _, d := range [][32]byte{nothing, sha256.Sum256(nil), sha256.Sum256([]byte{1, 1, 0})} {
		notLoaded(t, s, d, api.ErrMissing, d)
		notRead(t, s, d, 0, 0, api.ErrMissing, d)
		notRead(t, s, d, 0, 1, api.ErrMissing, d)
	}
	// What was spoilt into a whole list is broken all the same.
	d := mustPut(t, s, []byte{2, 1, 0})
	s.Spoil(d, 0, 1)
	notLoaded(t, s, d, api.ErrBroken, d)
	notRead(t, s, d, 0, 0, api.ErrBroken, d)
	// An empty object is there, and is no list.
	d = mustPut(t, s, nil)
	notLoaded(t, s, d, api.ErrForm, d)
}

// TestP7TopsOfAWrongForm: told of the root, whatever is asked of the text.
func TestP7TopsOfAWrongForm(t *testing.T) {
	s := silt.New(math.MaxInt)
	ten, one := pieceOf([]byte("0123456789")), pieceOf([]byte("x"))
	mustPut(t, s, ten)
	mustPut(t, s, one)
	leaf := listOf(1, partOf(10, ten))
	mustPut(t, s, leaf)
	nine := slices.Repeat([]part{partOf(10, ten)}, 9)
	good := listOf(1, nine[:2]...)
	tops := [][]byte{
		nil, {0}, {1}, {2}, {1, 1}, {1, 2}, {1, 8}, {1, 1, 1}, {1, 1, 8},
		{0, 1, 0}, {2, 1, 0}, {255, 1, 0}, {1, 0, 0}, {1, 9, 0}, {1, 255, 0}, {1, 1, 0, 0}, {1, 1, 0, 1, 1, 0}, {1, 1, 255},
		{1, 2, 0}, {1, 3, 0}, {1, 8, 0},
		ten, one, pieceOf(leaf),
		listOf(1, nine...), listOf(2, slices.Repeat([]part{partOf(10, leaf)}, 9)...),
		good[:len(good)-1], good[:len(good)-36], append(slices.Clone(good), 0), append(slices.Clone(good), make([]byte, 36)...),
		listOf(0, nine[:2]...), listOf(9, nine[:2]...), listOf(200, nine[:2]...),
		listOf(1, partOf(0, ten)), listOf(1, partOf(0, ten), nine[0]), listOf(1, nine[0], partOf(0, ten)), listOf(1, nine[0], partOf(0, ten), nine[0]),
		listOf(2, partOf(10, leaf), partOf(0, leaf)), listOf(2, partOf(0, leaf), partOf(10, leaf)),
		listOf(1, partOf(65537, ten)), listOf(1, partOf(65536, ten), partOf(1, one)), listOf(1, partOf(1, one), partOf(65536, ten)),
		listOf(2, partOf(65527, leaf), partOf(10, leaf)), listOf(1, partOf(1<<31, ten)), listOf(1, partOf(1<<32-1, ten)),
		// Sums that are small modulo 2 to the 32.
		listOf(1, partOf(1<<31, ten), partOf(1<<31, ten)), listOf(1, partOf(1<<32-1, ten), partOf(11, ten)), listOf(2, partOf(1<<32-1, leaf), partOf(1, leaf)),
	}
	for level := 2; level <= 8; level++ {
		tops = append(tops, listOf(level, partOf(10, leaf)))
	}
	for _, top := range tops {
		root := mustPut(t, s, top)
		notLoaded(t, s, root, api.ErrForm, root)
		for _, c := range [][2]int{{0, 0}, {0, 1}, {3, 5}, {0, 10}, {10, 10}, {65536, 0}, {65536, 1}, {math.MaxInt, math.MaxInt}} {
			notRead(t, s, root, c[0], c[1], api.ErrForm, root)
		}
	}
}

// TestP7PartsOfAWrongForm: told of the object that a part led to, and only if a byte of it is asked for.
func TestP7PartsOfAWrongForm(t *testing.T) {
	s := silt.New(math.MaxInt)
	ten, six := pieceOf([]byte("0123456789")), pieceOf([]byte("abcdef"))
	one := listOf(1, partOf(10, ten))
	two := listOf(1, partOf(6, six), partOf(10, ten))
	high := listOf(2, partOf(10, one), partOf(16, two))
	for _, b := range [][]byte{ten, six, one, two, high} {
		mustPut(t, s, b)
	}
	for i, c := range []struct {
		level, n int
		object   []byte
	}{
		{1, 10, nil}, {1, 1, nil}, {1, 10, []byte{0}}, {1, 1, []byte{0}}, {1, 1, []byte{1}}, {1, 1, []byte{7, 7}}, {1, 9, ten}, {1, 11, ten}, {1, 10, six}, {1, 65000, ten},
		{1, 10, append([]byte{1}, ten[1:]...)}, {1, 10, append([]byte{255}, ten[1:]...)},
		{1, 10, one}, {1, 38, one}, {1, 16, two}, {1, 2, []byte{1, 1, 0}}, {1, 1, []byte{1, 1, 0}},
		{2, 10, ten}, {2, 6, six}, {2, 10, nil}, {2, 1, []byte{1, 1, 0}}, {2, 1, []byte{1, 1}}, {2, 9, one}, {2, 11, one}, {2, 10, two}, {2, 15, two}, {2, 17, two}, {2, 6, two},
		{2, 26, high}, {2, 10, listOf(2, partOf(10, one))}, {2, 10, listOf(0, partOf(10, one))}, {2, 10, listOf(9, partOf(10, one))},
		{2, 10, listOf(1, partOf(10, ten), partOf(0, ten))}, {2, 10, append(slices.Clone(one), 0)}, {2, 10, one[:len(one)-1]},
		{2, 10, listOf(1, partOf(1<<32-1, ten), partOf(11, ten))}, {2, 10, listOf(1, partOf(1<<31, ten), partOf(1<<31+10, ten))},
		{3, 10, one}, {3, 16, two}, {3, 25, high}, {3, 27, high}, {3, 1, []byte{1, 2, 0}}, {3, 1, []byte{1, 1, 0}}, {3, 10, listOf(3, partOf(10, one), partOf(10, one))},
		{8, 10, one}, {8, 26, high}, {8, 10, listOf(8, partOf(10, one))}, {8, 1, []byte{1, 7, 0}},
		{4, 9, listOf(3, partOf(10, one))},
	} {
		d := mustPut(t, s, c.object)
		// Ahead of it stands something whole of ten bytes.
		whole := mustPut(t, s, ten)
		for level := 1; level < c.level; level++ {
			whole = mustPut(t, s, listOf(level, part{10, whole}))
		}
		root := mustPut(t, s, listOf(c.level, part{10, whole}, part{c.n, d}, part{10, whole}))
		notLoaded(t, s, root, api.ErrForm, d)
		reads(t, s, root, 0, []byte("0123456789"))
		reads(t, s, root, 10, nil)
		reads(t, s, root, 10+c.n, []byte("0123456789"))
		notRead(t, s, root, 9, 2, api.ErrForm, d)
		notRead(t, s, root, 10, 1, api.ErrForm, d)
		notRead(t, s, root, 9+c.n, 1, api.ErrForm, d)
		notRead(t, s, root, 0, 20+c.n, api.ErrForm, d)
		if t.Failed() {
			t.Fatalf("case %d", i)
		}
	}
}

// TestP7FormsThatMayBe: what no text would become, but P7 takes.
func TestP7FormsThatMayBe(t *testing.T) {
	r := rand.New(rand.NewSource(42))
	s := silt.New(math.MaxInt)
	// Pieces of all lengths, wherever they stand and whatever their bytes.
	for _, n := range []int{1, 2, 31, 32, 255, 256, 257, 300, 511} {
		chunk := noise(r, n, 2)
		d := mustPut(t, s, pieceOf(chunk))
		root := mustPut(t, s, listOf(1, part{n, d}, part{n, d}))
		reads(t, s, root, 0, slices.Repeat(chunk, 2))
	}
	// Below the top a list may have one part.
	chunk := []byte("0123456789")
	d := mustPut(t, s, pieceOf(chunk))
	for level := 1; level <= 8; level++ {
		root := mustPut(t, s, listOf(level, part{10, d}, part{10, d}))
		reads(t, s, root, 0, slices.Repeat(chunk, 2))
		reads(t, s, root, 5, slices.Repeat(chunk, 2)[5:17])
		notLoaded(t, s, root, api.ErrStream, root)
		d = mustPut(t, s, listOf(level, part{10, d}))
	}
	// Eight parts, and just MaxStream bytes.
	d = mustPut(t, s, pieceOf([]byte("x")))
	n := 1
	for level := 1; n < api.MaxStream/2; level++ {
		d = mustPut(t, s, listOf(level, slices.Repeat([]part{{n, d}}, 8)...))
		n *= 8
	}
	root := mustPut(t, s, listOf(6, part{n, d}, part{n, d}))
	if 2*n != api.MaxStream {
		t.Fatalf("the text has %d bytes", 2*n)
	}
	reads(t, s, root, 0, bytes.Repeat([]byte("x"), api.MaxStream))
	notLoaded(t, s, root, api.ErrStream, root)
	notRead(t, s, root, 0, api.MaxStream+1, api.ErrRange, nothing)
}

// TestP7TextsThatAreNoTree: whole, and yet nothing that Save made.
func TestP7TextsThatAreNoTree(t *testing.T) {
	s := silt.New(math.MaxInt)
	r := rand.New(rand.NewSource(43))
	texts := [][]byte{[]byte("x"), noise(r, 3000, 256), streamOf([]api.Entry{file("a", "hi")})[:16], append(streamOf(wideTree(r, 20)), 0)}
	for _, tree := range badTrees() {
		texts = append(texts, streamOf(tree))
	}
	for _, text := range texts {
		for _, object := range objectsOf(text) {
			mustPut(t, s, object)
		}
		root := rootOf(text)
		reads(t, s, root, 0, text)
		notLoaded(t, s, root, api.ErrStream, root)
	}
}

// TestP7TreesWithOtherLists: the text is the stream of a tree, but the root is not the one that Save tells.
func TestP7TreesWithOtherLists(t *testing.T) {
	r := rand.New(rand.NewSource(44))
	tree := treeOfChunks(t, r, 20)
	text := streamOf(tree)
	s, root := saved(t, tree)
	// keep cuts the text into chunks of these lengths, and gathers them into lists of so many parts.
	keep := func(lengths []int, fan int) [32]byte {
		var parts []part
		at := 0
		for _, n := range lengths {
			parts = append(parts, part{n, mustPut(t, s, pieceOf(text[at:at+n]))})
			at += n
		}
		for level := 1; level == 1 || len(parts) > 1; level++ {
			var above []part
			for some := range slices.Chunk(parts, fan) {
				sum := 0
				for _, p := range some {
					sum += p.n
				}
				above = append(above, part{sum, mustPut(t, s, listOf(level, some...))})
			}
			parts = above
		}
		return parts[0].d
	}
	cuts := cutsOf(text)
	if keep(cuts, 8) != root {
		t.Fatal("the same cuts and lists make another root")
	}
	first := slices.Clone(cuts)
	first[0], first[1] = first[0]-1, first[1]+1
	more := slices.Clone(cuts)
	more[3]--
	more = slices.Insert(more, 4, 1)
	others := [][32]byte{keep(cuts, 7), keep(cuts, 2), keep(first, 8), keep(more, 8), keep(slices.Repeat([]int{1}, len(text)), 8)}
	for _, other := range others {
		reads(t, s, other, 0, text)
		notLoaded(t, s, other, api.ErrStream, other)
	}
	loads(t, s, root, tree)
	// The same lists of level 1, and yet another level above them.
	all := objectsOf(text)
	var leaves []part
	for _, object := range all {
		if object[0] == 1 && object[1] == 1 {
			l := part{0, sha256.Sum256(object)}
			for at := 3; at < len(object); at += 36 {
				l.n += int(binary.BigEndian.Uint32(object[at:]))
			}
			leaves = append(leaves, l)
		}
	}
	left := part{leaves[0].n + leaves[1].n, mustPut(t, s, listOf(2, leaves[0], leaves[1]))}
	right := part{leaves[2].n, mustPut(t, s, listOf(2, leaves[2]))}
	other := mustPut(t, s, listOf(3, left, right))
	reads(t, s, other, 0, text)
	notLoaded(t, s, other, api.ErrStream, other)
}

// TestP7TheFirstFaultFromTheLeft: what stands further left is told ahead of what stands higher, and each object ahead of its parts.
func TestP7TheFirstFaultFromTheLeft(t *testing.T) {
	s := silt.New(math.MaxInt)
	chunk := func(i int) []byte { return pieceOf([]byte{byte('a' + i), '.', '.'}) }
	var text []byte
	var order [][]byte // as the walk comes to them
	var top []part
	for i := range 2 {
		var leaves []part
		var below [][]byte
		for j := range 2 {
			var parts []part
			var ends [][]byte
			for k := range 2 {
				b := chunk(i*4 + j*2 + k)
				text = append(text, b[1:]...)
				parts = append(parts, partOf(3, b))
				ends = append(ends, b)
			}
			leaf := listOf(1, parts...)
			leaves = append(leaves, partOf(6, leaf))
			below = append(append(below, leaf), ends...)
		}
		high := listOf(2, leaves...)
		top = append(top, partOf(12, high))
		order = append(append(order, high), below...)
	}
	order = append([][]byte{listOf(3, top...)}, order...)
	root := sha256.Sum256(order[0])
	for i := range order {
		for j := range order {
			for _, object := range order {
				mustPut(t, s, object)
			}
			a, b := sha256.Sum256(order[i]), sha256.Sum256(order[j])
			s.Remove(b)
			s.Spoil(a, 2, 99)
			first, code := a, api.ErrBroken
			if j <= i {
				first, code = b, api.ErrMissing
			}
			notLoaded(t, s, root, code, first)
			notRead(t, s, root, 0, len(text), code, first)
		}
	}
}

func TestP7Read(t *testing.T) {
	r := rand.New(rand.NewSource(45))
	for _, tree := range [][]api.Entry{nil, {file("a", "hi")}, treeOfChunks(t, r, 9), wideTree(r, 60)} {
		text := streamOf(tree)
		s, root := saved(t, tree)
		objects, size := s.Count()
		for range 400 {
			from := r.Intn(len(text) + 1)
			n := r.Intn(min(len(text)-from, 700) + 1)
			reads(t, s, root, from, text[from:from+n])
		}
		// All pairs around the cuts.
		var ends []int
		at := 0
		for _, n := range cutsOf(text) {
			ends = append(ends, at, at+1, at+n-1)
			at += n
		}
		ends = append(ends, at)
		for _, from := range ends {
			for _, to := range ends {
				if from <= to && (to-from < 600 || from == 0 || to == at) {
					reads(t, s, root, from, text[from:to])
				}
			}
		}
		wantCount(t, s, objects, size)
	}
}

func TestP7ReadBeyondTheText(t *testing.T) {
	r := rand.New(rand.NewSource(46))
	for _, tree := range [][]api.Entry{nil, {file("a", "hi")}, wideTree(r, 30)} {
		s, root := saved(t, tree)
		n := len(streamOf(tree))
		reads(t, s, root, n, nil)
		// Deeper faults are not met: the range is asked behind the top.
		for _, object := range objectsOf(streamOf(tree)) {
			if d := sha256.Sum256(object); d != root {
				s.Remove(d)
			}
		}
		reads(t, s, root, n, nil)
		reads(t, s, root, 0, nil)
		for _, c := range [][2]int{
			{0, n + 1}, {1, n}, {n, 1}, {n + 1, 0}, {n + 1, 1}, {n - 1, 2}, {0, math.MaxInt}, {1, math.MaxInt}, {n, math.MaxInt}, {math.MaxInt, 0}, {math.MaxInt, 1}, {math.MaxInt, math.MaxInt}, {math.MaxInt - 1, 3}, {1 << 62, 1 << 62}, {0, 1 << 32}, {1 << 32, 0}, {api.MaxStream, 1}, {0, api.MaxStream + 1},
		} {
			if c[0] >= 0 {
				notRead(t, s, root, c[0], c[1], api.ErrRange, nothing)
			}
		}
	}
}

// TestP1ReadTellsTheErrorNamedFirst: a number below 0, then the top, then the range, then what lies deeper.
func TestP1ReadTellsTheErrorNamedFirst(t *testing.T) {
	s := silt.New(math.MaxInt)
	lost := sha256.Sum256([]byte("lost"))
	form := mustPut(t, s, []byte("no list"))
	deep := mustPut(t, s, listOf(1, part{10, lost}))
	broken := mustPut(t, s, []byte{1, 1, 0, 0})
	s.Spoil(broken, 0, 7)
	for _, root := range [][32]byte{nothing, lost, form, deep, broken} {
		for _, c := range [][2]int{{-1, 0}, {0, -1}, {-1, -1}, {-1, 1}, {1, -1}, {math.MinInt, 0}, {0, math.MinInt}, {math.MinInt, math.MinInt}, {math.MaxInt, math.MinInt}, {math.MinInt, math.MaxInt}, {-1, 100}, {100, -1}, {11, -1}} {
			notRead(t, s, root, c[0], c[1], api.ErrRange, nothing)
		}
	}
	notRead(t, s, lost, 5, math.MaxInt, api.ErrMissing, lost)
	notRead(t, s, broken, math.MaxInt, math.MaxInt, api.ErrBroken, broken)
	notRead(t, s, form, math.MaxInt, 1, api.ErrForm, form)
	notRead(t, s, deep, 5, 6, api.ErrRange, nothing)
	notRead(t, s, deep, 5, 5, api.ErrMissing, lost)
	// A text with a fault that is no stream either: the walk comes first.
	notLoaded(t, s, deep, api.ErrMissing, lost)
}

// TestP7ReadNeedsNoMore: of all objects only those on the way to the bytes are there.
func TestP7ReadNeedsNoMore(t *testing.T) {
	r := rand.New(rand.NewSource(47))
	tree := wideTree(r, 60)
	text := streamOf(tree)
	whole := plainStore{math.MaxInt, map[[32]byte][]byte{}}
	for _, object := range objectsOf(text) {
		whole.put(object)
	}
	root := rootOf(text)
	for range 100 {
		from := r.Intn(len(text))
		n := r.Intn(min(len(text)-from, 500) + 1)
		_, _, met := whole.read(root, from, n)
		s := silt.New(math.MaxInt)
		for _, d := range met {
			mustPut(t, s, whole.has[d])
		}
		reads(t, s, root, from, text[from:from+n])
		// Each of them is needed.
		d := met[r.Intn(len(met))]
		s.Remove(d)
		notRead(t, s, root, from, n, api.ErrMissing, d)
	}
}

// finding is the code of a fault, and of what it speaks.
type finding struct {
	code int
	of   [32]byte
}

// list tells a list by the document's words.
func (p plainStore) list(d [32]byte) (level int, parts []part, f finding) {
	b, code := p.get(d)
	if code != 0 {
		return 0, nil, finding{code, d}
	}
	if len(b) < 3 || b[0] != 1 || b[1] < 1 || b[1] > 8 || b[2] > 8 || len(b) != 3+36*int(b[2]) {
		return 0, nil, finding{api.ErrForm, d}
	}
	for at := 3; at < len(b); at += 36 {
		n := int(binary.BigEndian.Uint32(b[at:]))
		if n == 0 {
			return 0, nil, finding{api.ErrForm, d}
		}
		parts = append(parts, part{n, [32]byte(b[at+4 : at+36])})
	}
	return int(b[1]), parts, finding{}
}

func sumOf(parts []part) int {
	sum := 0
	for _, p := range parts {
		sum += p.n
	}
	return sum
}

// read does what P7 says of Read, by its words, and tells all that it met.
func (p plainStore) read(root [32]byte, from, n int) (text []byte, f finding, met [][32]byte) {
	if from < 0 || n < 0 {
		return nil, finding{code: api.ErrRange}, nil
	}
	level, parts, f := p.list(root)
	if f.code != 0 {
		return nil, f, nil
	}
	total := sumOf(parts)
	if level > 1 && len(parts) < 2 || total > 65536 {
		return nil, finding{api.ErrForm, root}, nil
	}
	if from > total || n > total-from {
		return nil, finding{code: api.ErrRange}, nil
	}
	// What is still to be met, the next one last.
	type step struct {
		part
		level, at int
	}
	var todo []step
	push := func(level, at int, parts []part) {
		at += sumOf(parts)
		for _, q := range slices.Backward(parts) {
			at -= q.n
			if at < from+n && at+q.n > from && n > 0 {
				todo = append(todo, step{q, level, at})
			}
		}
	}
	met = append(met, root)
	push(level-1, 0, parts)
	for len(todo) > 0 {
		next := todo[len(todo)-1]
		todo = todo[:len(todo)-1]
		met = append(met, next.d)
		if next.level > 0 {
			level, parts, f := p.list(next.d)
			if f.code != 0 {
				return nil, f, nil
			}
			if level != next.level || sumOf(parts) != next.n {
				return nil, finding{api.ErrForm, next.d}, nil
			}
			push(level-1, next.at, parts)
			continue
		}
		b, code := p.get(next.d)
		if code != 0 {
			return nil, finding{code, next.d}, nil
		}
		if len(b) != next.n+1 || b[0] != 0 {
			return nil, finding{api.ErrForm, next.d}, nil
		}
		for i, x := range b[1:] {
			if at := next.at + i; at >= from && at < from+n {
				text = append(text, x)
			}
		}
	}
	return text, finding{}, met
}

// load does what P7 says of Load, by its words.
func (p plainStore) load(root [32]byte) ([]api.Entry, finding) {
	_, parts, f := p.list(root)
	if f.code != 0 {
		return nil, f
	}
	text, f, _ := p.read(root, 0, min(sumOf(parts), 65536))
	if f.code != 0 {
		return nil, f
	}
	tree, err := silt.Tree(text)
	if err != nil || rootOf(text) != root {
		return nil, finding{api.ErrStream, root}
	}
	return tree, finding{}
}

// known is an object, what a part would say of it, and where it may stand: 0 for a piece.
type known struct {
	part
	level int
}

// tangle fills a store with pieces and lists of all levels, of which some are not what they should be, and spoils some.
func tangle(r *rand.Rand, put func([]byte), spoil func(d [32]byte, at int, with byte), remove func([32]byte)) []known {
	var all []known
	add := func(level, n int, object []byte) {
		put(object)
		all = append(all, known{partOf(n, object), level})
	}
	for range 12 {
		n := 1 + r.Intn(20)
		add(0, n, pieceOf(noise(r, n, 256)))
	}
	add(0, 300, pieceOf(noise(r, 300, 256)))
	text := streamOf(wideTree(r, 3))
	for _, object := range objectsOf(text) {
		level, n := 0, len(object)-1
		if object[0] == 1 {
			level, n = int(object[1]), 0
			for at := 3; at < len(object); at += 36 {
				n += int(binary.BigEndian.Uint32(object[at:]))
			}
		}
		add(level, n, object)
	}
	for range 60 {
		level := 1 + r.Intn(8)
		var parts []part
		for range r.Intn(9) {
			var fit []known
			for _, k := range all {
				if k.level == level-1 || r.Intn(200) == 0 {
					fit = append(fit, k)
				}
			}
			if len(fit) == 0 {
				break
			}
			p := fit[r.Intn(len(fit))].part
			if r.Intn(60) == 0 {
				p.n = []int{0, max(p.n-1, 0), p.n + 1, 1 << 31, 65536}[r.Intn(5)]
			}
			parts = append(parts, p)
		}
		object := listOf(level, parts...)
		if r.Intn(40) == 0 {
			object[r.Intn(3)] = byte(r.Intn(10))
		}
		if r.Intn(40) == 0 {
			object = append(object, 0)
		}
		add(level, sumOf(parts), object)
	}
	for range r.Intn(5) {
		spoil(all[r.Intn(len(all))].d, r.Intn(4), byte(r.Intn(4)))
		remove(all[r.Intn(len(all))].d)
	}
	return all
}

// TestP7TangledStores holds Load and Read against the document's words, in stores full of faults.
func TestP7TangledStores(t *testing.T) {
	r := rand.New(rand.NewSource(48))
	codes := map[int]int{}
	for range 60 {
		s, p := silt.New(math.MaxInt), plainStore{math.MaxInt, map[[32]byte][]byte{}}
		put := func(b []byte) { mustPut(t, s, b); p.put(b) }
		spoil := func(d [32]byte, at int, with byte) { s.Spoil(d, at, with); p.spoil(d, at, with) }
		remove := func(d [32]byte) { s.Remove(d); p.remove(d) }
		for _, k := range tangle(r, put, spoil, remove) {
			want, f := p.load(k.d)
			if codes[f.code]++; f.code == 0 {
				loads(t, s, k.d, want)
			} else {
				notLoaded(t, s, k.d, f.code, f.of)
			}
			for range 8 {
				from := r.Intn(k.n+2+r.Intn(2)) - 1
				n := r.Intn(min(max(k.n-from, 1), 40+r.Intn(2)*k.n)+2) - 1
				want, f, _ := p.read(k.d, from, n)
				if f.code == 0 {
					reads(t, s, k.d, from, want)
				} else {
					notRead(t, s, k.d, from, n, f.code, f.of)
				}
			}
		}
		wantCount(t, s, len(p.has), p.size())
	}
	for _, code := range []int{0, api.ErrMissing, api.ErrBroken, api.ErrForm, api.ErrStream} {
		if codes[code] < 30 {
			t.Errorf("the code %d came only %d times: the stores are too plain", code, codes[code])
		}
	}
}

// TestP1WalkFaultsAreNew: who writes into a fault changes neither another one nor the store; and it is a plain one.
func TestP1WalkFaultsAreNew(t *testing.T) {
	s := silt.New(1000)
	lost := sha256.Sum256([]byte("lost"))
	form := mustPut(t, s, listOf(2, part{1, lost}))
	deep := mustPut(t, s, listOf(1, part{1, lost}))
	x := mustPut(t, s, pieceOf([]byte("x")))
	text := mustPut(t, s, listOf(1, part{1, x}))
	n, m := s.Count()
	for range 2 {
		_, full := s.Save(wideTree(rand.New(rand.NewSource(1)), 5))
		_, entry := s.Save([]api.Entry{file("", "")})
		_, down := s.Load(deep)
		_, top := s.Load(form)
		_, stream := s.Load(text)
		_, within := s.Read(deep, 0, 1)
		_, below := s.Read(deep, -1, 1)
		_, beyond := s.Read(deep, 0, 2)
		wantFault(t, "Save", full, api.ErrFull)
		wantFault(t, "Save", entry, api.ErrEntry)
		wantFaultOf(t, "Load", down, api.ErrMissing, lost)
		wantFaultOf(t, "Load", top, api.ErrForm, form)
		wantFaultOf(t, "Load", stream, api.ErrStream, text)
		wantFaultOf(t, "Read", within, api.ErrMissing, lost)
		wantFault(t, "Read", below, api.ErrRange)
		wantFault(t, "Read", beyond, api.ErrRange)
		for _, err := range []error{full, entry, down, top, stream, within, below, beyond} {
			*err.(*api.Fault) = api.Fault{Code: 77, Digest: [32]byte{7}}
		}
	}
	wantCount(t, s, n, m)
}

func TestP2WhatIsReadIsNewMemory(t *testing.T) {
	r := rand.New(rand.NewSource(49))
	tree := wideTree(r, 12)
	text := streamOf(tree)
	s, root := saved(t, tree)
	for _, c := range [][2]int{{0, len(text)}, {0, 1}, {100, 300}, {len(text) - 5, 5}, {7, 0}} {
		first, err := s.Read(root, c[0], c[1])
		wantNoError(t, "Read", err)
		second, err := s.Read(root, c[0], c[1])
		wantNoError(t, "Read", err)
		scribble(first, 0xcc)
		if !bytes.Equal(second, text[c[0]:c[0]+c[1]]) {
			t.Fatal("two answers of Read share room")
		}
		for _, object := range objectsOf(text) {
			wantGet(t, s, object)
		}
		reads(t, s, root, c[0], text[c[0]:c[0]+c[1]])
	}
	first, err := s.Load(root)
	wantNoError(t, "Load", err)
	second, err := s.Load(root)
	wantNoError(t, "Load", err)
	for i := range first {
		scribble(first[i].Notes, api.Note{Name: "spoilt"})
	}
	scribble(first, api.Entry{Path: "spoilt"})
	if !reflect.DeepEqual(second, tree) {
		t.Fatal("two answers of Load share room")
	}
	loads(t, s, root, tree)
	// Nor do they change with the store.
	b, err := s.Read(root, 0, len(text))
	wantNoError(t, "Read", err)
	for _, object := range objectsOf(text) {
		for at := range object {
			s.Spoil(sha256.Sum256(object), at, 0xee)
		}
	}
	if !bytes.Equal(b, text) || !reflect.DeepEqual(second, tree) {
		t.Fatal("Spoil changed what was told")
	}
}
