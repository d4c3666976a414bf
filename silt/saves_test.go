package silt_test

import (
	"bytes"
	"crypto/sha256"
	"encoding/binary"
	"errors"
	"math"
	"math/rand"
	"reflect"
	"slices"
	"strconv"
	"strings"
	"sync"
	"testing"

	"silt/api"
	"silt/silt"
)

// part of a list.
type part struct {
	n int
	d [32]byte
}

func pieceOf(chunk []byte) []byte { return append([]byte{0}, chunk...) }

// listOf is the bytes of a list; it asks nothing of the parts.
func listOf(level int, parts ...part) []byte {
	out := []byte{1, byte(level), byte(len(parts))}
	for _, p := range parts {
		out = binary.BigEndian.AppendUint32(out, uint32(p.n))
		out = append(out, p.d[:]...)
	}
	return out
}

// partOf stands for an object of n bytes of the text.
func partOf(n int, object []byte) part { return part{n, sha256.Sum256(object)} }

// objectsOf tells the objects of a text by the document's words, each once, the top last.
func objectsOf(text []byte) [][]byte {
	var level []part
	var out [][]byte
	seen := map[[32]byte]int{}
	add := func(n int, object []byte) part {
		p := partOf(n, object)
		if seen[p.d]++; seen[p.d] == 1 {
			out = append(out, object)
		}
		return p
	}
	for _, n := range cutsOf(text) {
		level = append(level, add(n, pieceOf(text[:n])))
		text = text[n:]
	}
	for high := 1; high == 1 || len(level) > 1; high++ {
		var above []part
		for len(level) > 0 || len(above) == 0 {
			some := level[:min(8, len(level))]
			level = level[len(some):]
			sum := 0
			for _, p := range some {
				sum += p.n
			}
			above = append(above, add(sum, listOf(high, some...)))
		}
		level = above
	}
	return out
}

func rootOf(text []byte) [32]byte {
	all := objectsOf(text)
	return sha256.Sum256(all[len(all)-1])
}

func sizeOf(objects [][]byte) int {
	sum := 0
	for _, b := range objects {
		sum += len(b)
	}
	return sum
}

// treeOfChunks is a tree of one file whose stream has so many chunks.
func treeOfChunks(t *testing.T, r *rand.Rand, chunks int) []api.Entry {
	t.Helper()
	content := string(noise(r, chunks*150, 256))
	for n := max(0, chunks*32-40); n <= len(content); n += 11 {
		tree := []api.Entry{file("a", content[:n])}
		if len(silt.Cuts(streamOf(tree))) == chunks {
			return tree
		}
	}
	t.Fatalf("no tree of %d chunks was found", chunks)
	return nil
}

// wideTree has many files, in directories, links and notes among them.
func wideTree(r *rand.Rand, files int) []api.Entry {
	tree := []api.Entry{noted(dir("d"), "k", "v"), dir("d/e")}
	for i := range files {
		tree = append(tree, file("d/e/"+strconv.Itoa(1000+i), string(noise(r, r.Intn(400), 256))))
	}
	return append(tree, noted(link("l", "d/e"), "a", "1", "b", "2"), file("z", "end"))
}

// greatTrees have streams of just MaxStream bytes: one of bytes of all kinds, one whose chunks are as short and alike as they can be, one that is cut by MaxChunk alone.
func greatTrees(t *testing.T, r *rand.Rand) [][]api.Entry {
	const room = api.MaxStream - 15
	other := strings.Repeat(string(neverCut(t)), room)[:room]
	return [][]api.Entry{{file("a", string(noise(r, room, 256)))}, {file("a", strings.Repeat("\x00", room))}, {file("a", other)}}
}

func mustSave(t *testing.T, s *silt.Store, tree []api.Entry) [32]byte {
	t.Helper()
	root, err := s.Save(tree)
	wantNoError(t, "Save", err)
	return root
}

// saved is a store with room for all, and a tree in it.
func saved(t *testing.T, tree []api.Entry) (*silt.Store, [32]byte) {
	t.Helper()
	s := silt.New(math.MaxInt)
	return s, mustSave(t, s, tree)
}

// notSaved: Save answers this error, no root, and changes nothing that Count tells.
func notSaved(t *testing.T, s *silt.Store, tree []api.Entry, code int) {
	t.Helper()
	n, m := s.Count()
	root, err := s.Save(tree)
	wantFault(t, "Save", err, code)
	if root != [32]byte{} {
		t.Fatalf("Save = %x beside an error", root)
	}
	wantCount(t, s, n, m)
}

func TestP6Examples(t *testing.T) {
	s := silt.New(3)
	root := mustSave(t, s, nil)
	if root != sha256.Sum256([]byte{1, 1, 0}) {
		t.Errorf("the root of no entries is %x", root)
	}
	wantGet(t, s, []byte{1, 1, 0})
	wantCount(t, s, 1, 3)

	s, root = saved(t, []api.Entry{file("a", "hi")})
	piece := []byte("\x00\x00\x01\x61\x01\xa4\x00\x00\x00\x00\x01\x00\x00\x00\x00\x02\x68\x69")
	d := sha256.Sum256(piece)
	top := append([]byte{1, 1, 1, 0, 0, 0, 17}, d[:]...)
	wantGet(t, s, piece)
	wantGet(t, s, top)
	wantCount(t, s, 2, 18+39)
	if root != sha256.Sum256(top) {
		t.Errorf("the root of one file is %x, want %x", root, sha256.Sum256(top))
	}
}

// TestP6ObjectsOfTrees: a store has just the objects of the trees, and the root is that of the top.
func TestP6ObjectsOfTrees(t *testing.T) {
	r := rand.New(rand.NewSource(30))
	trees := append(someTrees(), greatTrees(t, r)...)
	for _, n := range []int{1, 2, 7, 8, 9, 16, 17, 63, 64, 65, 128, 129, 511, 512, 513} {
		trees = append(trees, treeOfChunks(t, r, n))
	}
	for _, n := range []int{5, 50, 150} {
		trees = append(trees, wideTree(r, n))
	}
	levels := map[byte]int{}
	for i, tree := range trees {
		all := objectsOf(streamOf(tree))
		s, root := saved(t, tree)
		if root != rootOf(streamOf(tree)) {
			t.Fatalf("tree %d: the root is %x, want %x", i, root, rootOf(streamOf(tree)))
		}
		wantCount(t, s, len(all), sizeOf(all))
		for _, object := range all {
			wantGet(t, s, object)
		}
		levels[all[len(all)-1][1]]++
	}
	for level := range byte(4) {
		if levels[level+1] == 0 {
			t.Errorf("no tree had a top of level %d", level+1)
		}
	}
}

func TestP6TreesThatMayNotBe(t *testing.T) {
	long := file("b", strings.Repeat("x", api.MaxStream-14))
	for _, limit := range []int{math.MinInt, -1, 0, 3, 100, math.MaxInt} {
		s := silt.New(limit)
		if limit >= 3 {
			mustSave(t, s, nil)
		}
		for _, e := range badEntries() {
			notSaved(t, s, []api.Entry{e}, api.ErrEntry)
		}
		for _, tree := range badTrees() {
			notSaved(t, s, tree, api.ErrEntry)
		}
		// Where there is no room either, what is named first is told.
		notSaved(t, s, []api.Entry{long}, api.ErrLong)
		notSaved(t, s, []api.Entry{long, file("a", "")}, api.ErrEntry)
		notSaved(t, s, []api.Entry{long, file("c", "")}, api.ErrLong)
	}
}

// TestP6JustAsMuchRoom: an object that a tree has twice is counted once.
func TestP6JustAsMuchRoom(t *testing.T) {
	r := rand.New(rand.NewSource(31))
	trees := append(someTrees(), greatTrees(t, r)...)
	trees = append(trees, wideTree(r, 20), treeOfChunks(t, r, 9))
	for _, tree := range trees {
		all := objectsOf(streamOf(tree))
		size := sizeOf(all)
		s := silt.New(size)
		root := mustSave(t, s, tree)
		wantCount(t, s, len(all), size)
		if again := mustSave(t, s, tree); again != root {
			t.Fatalf("saved again, the root is %x, want %x", again, root)
		}
		wantCount(t, s, len(all), size)
		for _, limit := range []int{size - 1, size / 2, 2, 0, -1, math.MinInt} {
			s := silt.New(limit)
			notSaved(t, s, tree, api.ErrFull)
			wantCount(t, s, 0, 0)
			wantLost(t, s, root, api.ErrMissing)
		}
	}
}

// TestP6RoomBesideOthers: what a store has under a digest needs no more room, whole or spoilt; what it has beside that does.
func TestP6RoomBesideOthers(t *testing.T) {
	r := rand.New(rand.NewSource(32))
	for round := range 40 {
		tree := wideTree(r, 4+round/4)
		all := objectsOf(streamOf(tree))
		other := noise(r, 1+r.Intn(300), 256)
		for _, less := range []int{0, 1} {
			s := silt.New(sizeOf(all) + len(other) - less)
			mustPut(t, s, other)
			var there, spoilt, missing [][]byte
			for _, i := range r.Perm(len(all))[:r.Intn(len(all))] {
				d := mustPut(t, s, all[i])
				there = append(there, all[i])
				if r.Intn(2) == 0 {
					s.Spoil(d, 1, all[i][1]+1)
					spoilt = append(spoilt, all[i])
				}
			}
			for _, object := range all {
				if !slices.ContainsFunc(there, func(b []byte) bool { return bytes.Equal(b, object) }) {
					missing = append(missing, object)
				}
			}
			if less == 0 {
				mustSave(t, s, tree)
				wantCount(t, s, len(all)+1, sizeOf(all)+len(other))
				for _, object := range append(all, other) {
					wantGet(t, s, object)
				}
				continue
			}
			// Nothing is changed: not even what would need no room becomes whole.
			notSaved(t, s, tree, api.ErrFull)
			for _, object := range spoilt {
				wantLost(t, s, sha256.Sum256(object), api.ErrBroken)
			}
			for _, object := range missing {
				wantLost(t, s, sha256.Sum256(object), api.ErrMissing)
			}
			wantGet(t, s, other)
		}
	}
}

// TestP6MakesWhole: each object that was spoilt or lost, in a store without spare room.
func TestP6MakesWhole(t *testing.T) {
	r := rand.New(rand.NewSource(33))
	tree := wideTree(r, 25)
	all := objectsOf(streamOf(tree))
	s := silt.New(sizeOf(all))
	root := mustSave(t, s, tree)
	for i, object := range all {
		d := sha256.Sum256(object)
		if i%3 == 0 {
			s.Remove(d)
		} else {
			at := r.Intn(len(object))
			s.Spoil(d, at, object[at]^byte(1+r.Intn(255)))
		}
		if i%2 == 0 {
			s.Spoil(sha256.Sum256(all[r.Intn(len(all))]), 0, 9)
		}
		if again := mustSave(t, s, tree); again != root {
			t.Fatalf("the root is %x, want %x", again, root)
		}
		wantCount(t, s, len(all), sizeOf(all))
		wantGet(t, s, object)
		loads(t, s, root, tree)
	}
	for _, object := range all {
		s.Spoil(sha256.Sum256(object), 0, 9)
	}
	mustSave(t, s, tree)
	for _, object := range all {
		wantGet(t, s, object)
	}
}

// TestP6TreesShareObjects: a second tree brings only what the first one has not.
func TestP6TreesShareObjects(t *testing.T) {
	r := rand.New(rand.NewSource(34))
	first := wideTree(r, 40)
	second := slices.Clone(first)
	second[20].Content += "!"
	both := map[[32]byte]int{}
	for _, object := range append(objectsOf(streamOf(first)), objectsOf(streamOf(second))...) {
		both[sha256.Sum256(object)] = len(object)
	}
	size := 0
	for _, n := range both {
		size += n
	}
	s := silt.New(size)
	a, b := mustSave(t, s, first), mustSave(t, s, second)
	wantCount(t, s, len(both), size)
	if a == b {
		t.Errorf("two trees have one root %x", a)
	}
	loads(t, s, a, first)
	loads(t, s, b, second)
	s = silt.New(size - 1)
	mustSave(t, s, second)
	n, m := s.Count()
	notSaved(t, s, first, api.ErrFull)
	wantCount(t, s, n, m)
	loads(t, s, b, second)
}

func TestP2SavedTreesStay(t *testing.T) {
	mark := noted(file("mark", "mark"), "m", "m")
	for i, tree := range someTrees() {
		whole := append(slices.Clone(tree), mark, mark)
		for j := range tree {
			whole[j].Notes = append(slices.Clone(tree[j].Notes), mark.Notes[0])[:len(tree[j].Notes)]
		}
		s, root := saved(t, whole[:len(tree)])
		for j := range tree {
			if n := whole[j].Notes; !slices.Equal(n[:len(n)+1], append(slices.Clone(tree[j].Notes), mark.Notes[0])) {
				t.Errorf("tree %d: Save wrote into the notes of entry %d or behind them: %v", i, j, n[:len(n)+1])
			}
			whole[j].Notes = tree[j].Notes
		}
		if want := append(slices.Clone(tree), mark, mark); !reflect.DeepEqual(whole, want) {
			t.Errorf("tree %d: Save changed it: %v, want %v", i, whole, want)
		}
		// Nothing of it is kept: the caller goes on with the list.
		scribble(whole, api.Entry{Path: "spoilt"})
		loads(t, s, root, tree)
	}
}

// TestP2SavedObjectsAreApart: the objects of a tree share no room in the store.
func TestP2SavedObjectsAreApart(t *testing.T) {
	r := rand.New(rand.NewSource(35))
	tree := wideTree(r, 10)
	all := objectsOf(streamOf(tree))
	other, same := saved(t, tree)
	for _, spoilt := range all {
		s, _ := saved(t, tree)
		d := sha256.Sum256(spoilt)
		for at := range spoilt {
			s.Spoil(d, at, spoilt[at]+1)
		}
		for _, object := range all {
			if !bytes.Equal(object, spoilt) {
				wantGet(t, s, object)
			}
		}
	}
	loads(t, other, same, tree)
}

// TestP2SeveralSave: trees that share objects, saved at the same time while others spoil and remove them.
func TestP2SeveralSave(t *testing.T) {
	r := rand.New(rand.NewSource(36))
	base := wideTree(r, 12)
	var trees [][]api.Entry
	var roots [][32]byte
	for i := range 6 {
		tree := slices.Clone(base)
		tree[3+i].Content += "!"
		trees = append(trees, tree)
		roots = append(roots, rootOf(streamOf(tree)))
	}
	s := silt.New(math.MaxInt)
	var all sync.WaitGroup
	for w, tree := range trees {
		text := streamOf(tree)
		objects := objectsOf(text)
		all.Go(func() {
			for i := range 40 {
				root, err := s.Save(tree)
				if err != nil || root != roots[w] {
					t.Errorf("Save = %x, %v", root, err)
					return
				}
				got, err := s.Load(roots[(w+i)%len(roots)])
				if err == nil && !reflect.DeepEqual(got, trees[(w+i)%len(roots)]) || err != nil && (got != nil || !errors.Is(err, api.Lost)) {
					t.Errorf("Load = %v, %v", got, err)
					return
				}
				b, err := s.Read(root, i, 300)
				if err == nil && !bytes.Equal(b, text[i:i+300]) || err != nil && (b != nil || !errors.Is(err, api.Lost)) {
					t.Errorf("Read = %q, %v", b, err)
					return
				}
				d := sha256.Sum256(objects[(w*7+i)%len(objects)])
				if i%2 == 0 {
					s.Remove(d)
				} else {
					s.Spoil(d, 1, byte(i))
				}
			}
		})
	}
	all.Wait()
	for i, tree := range trees {
		mustSave(t, s, tree)
		loads(t, s, roots[i], tree)
	}
}

// TestP2SeveralSaveWithRoomForOne: each finds room for all of its objects, or lays none.
func TestP2SeveralSaveWithRoomForOne(t *testing.T) {
	r := rand.New(rand.NewSource(37))
	for range 20 {
		var trees [][]api.Entry
		limit := 0
		for range 6 {
			tree := []api.Entry{file("a", string(noise(r, 2000, 256)))}
			trees = append(trees, tree)
			limit = max(limit, sizeOf(objectsOf(streamOf(tree))))
		}
		s := silt.New(limit)
		var all sync.WaitGroup
		errs := make([]error, len(trees))
		for i, tree := range trees {
			all.Go(func() { _, errs[i] = s.Save(tree) })
		}
		all.Wait()
		done := -1
		for i, err := range errs {
			switch {
			case codeOf(err) == api.ErrFull:
			case err != nil || done >= 0:
				t.Fatalf("Save of tree %d: %v, behind tree %d", i, err, done)
			default:
				done = i
			}
		}
		if done < 0 {
			t.Fatal("no tree found room")
		}
		objects := objectsOf(streamOf(trees[done]))
		wantCount(t, s, len(objects), sizeOf(objects))
		loads(t, s, rootOf(streamOf(trees[done])), trees[done])
	}
}
