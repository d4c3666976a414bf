package silt_test

import (
	"crypto/sha256"
	"math"
	"math/rand"
	"slices"
	"testing"

	"silt/api"
	"silt/silt"
)

// sweeps: Sweep tells that so many objects went.
func sweeps(t *testing.T, s *silt.Store, want int, roots ...[32]byte) {
	t.Helper()
	n, err := s.Sweep(roots)
	wantNoError(t, "Sweep", err)
	if n != want {
		t.Fatalf("Sweep = %d, want %d", n, want)
	}
}

// notSwept: Sweep answers this error, nothing beside it, and changes nothing that Count tells.
func notSwept(t *testing.T, s *silt.Store, code int, of [32]byte, roots ...[32]byte) {
	t.Helper()
	objects, size := s.Count()
	n, err := s.Sweep(roots)
	wantFaultOf(t, "Sweep", err, code, of)
	if n != 0 {
		t.Fatalf("Sweep = %d beside an error", n)
	}
	wantCount(t, s, objects, size)
}

// sweep does what P9 says, by its words: it tells what stays.
func (p plainStore) sweep(roots [][32]byte) (stays map[[32]byte]int, f finding) {
	stays = map[[32]byte]int{}
	type step struct {
		part
		level int
	}
	for _, root := range roots {
		level, parts, f := p.list(root)
		if f.code == 0 && (level > 1 && len(parts) < 2 || sumOf(parts) > 65536) {
			f = finding{api.ErrForm, root}
		}
		if f.code != 0 {
			return nil, f
		}
		todo := []step{{part{sumOf(parts), root}, level}}
		for len(todo) > 0 {
			next := todo[len(todo)-1]
			todo = todo[:len(todo)-1]
			stays[next.d]++
			level, parts, f := p.list(next.d)
			if f.code != 0 {
				return nil, f
			}
			if level != next.level || sumOf(parts) != next.n {
				return nil, finding{api.ErrForm, next.d}
			}
			for _, q := range slices.Backward(parts) {
				stays[q.d]++
				if level > 1 {
					todo = append(todo, step{q, level - 1})
				}
			}
		}
	}
	return stays, finding{}
}

// wantOnly: the store has these objects, and no other.
func wantOnly(t *testing.T, s *silt.Store, objects ...[]byte) {
	t.Helper()
	size := map[[32]byte]int{}
	sum := 0
	for _, b := range objects {
		d := sha256.Sum256(b)
		if _, seen := size[d]; !seen {
			sum += len(b)
		}
		size[d] = len(b)
		wantGet(t, s, b)
	}
	wantCount(t, s, len(size), sum)
}

func TestP9WhatTreesNeed(t *testing.T) {
	r := rand.New(rand.NewSource(70))
	one := wideTree(r, 30)
	two := append(slices.Clone(one[:20]), wideTree(r, 60)[30:]...)
	great := greatTrees(t, r)
	trees := [][]api.Entry{one, two, great[0], great[1], nil, {file("a", "hi")}, treeOfChunks(t, r, 8), treeOfChunks(t, r, 9)}
	var objects [][][]byte
	for _, tree := range trees {
		objects = append(objects, objectsOf(streamOf(tree)))
	}
	for round := range 40 {
		s := silt.New(math.MaxInt)
		var all, roots [][32]byte
		var stay [][]byte
		for i, tree := range trees {
			all = append(all, mustSave(t, s, tree))
			if round == i || round > len(trees) && r.Intn(2) == 0 {
				roots = append(roots, all[i])
				stay = append(stay, objects[i]...)
			}
		}
		for range r.Intn(5) {
			mustPut(t, s, noise(r, r.Intn(500), 256))
		}
		r.Shuffle(len(roots), func(i, j int) { roots[i], roots[j] = roots[j], roots[i] })
		before, _ := s.Count()
		n, err := s.Sweep(roots)
		wantNoError(t, "Sweep", err)
		wantOnly(t, s, stay...)
		if after, _ := s.Count(); n != before-after {
			t.Fatalf("Sweep = %d, but %d went", n, before-after)
		}
		for i, tree := range trees {
			if slices.Contains(roots, all[i]) {
				loads(t, s, all[i], tree)
			} else {
				notLoaded(t, s, all[i], api.ErrMissing, all[i])
			}
		}
		sweeps(t, s, 0, roots...)
		sweeps(t, s, 0, slices.Concat(roots, roots)...)
		wantOnly(t, s, stay...)
	}
}

func TestP9NoRoots(t *testing.T) {
	s := silt.New(math.MaxInt)
	sweeps(t, s, 0)
	mustPut(t, s, nil)
	mustPut(t, s, []byte("x"))
	d := mustPut(t, s, []byte("spoilt"))
	s.Spoil(d, 0, 'S')
	sweeps(t, s, 3)
	wantCount(t, s, 0, 0)
	wantLost(t, s, d, api.ErrMissing)
	root := mustSave(t, s, []api.Entry{file("a", "hi")})
	n, err := s.Sweep([][32]byte{})
	wantNoError(t, "Sweep", err)
	if n != 2 {
		t.Errorf("Sweep = %d, want 2", n)
	}
	wantCount(t, s, 0, 0)
	notSwept(t, s, api.ErrMissing, root, root)
}

// TestP9MakesRoom: what went needs no room any more, spoilt or not.
func TestP9MakesRoom(t *testing.T) {
	r := rand.New(rand.NewSource(71))
	one, two := wideTree(r, 20), wideTree(r, 20)
	a, b := objectsOf(streamOf(one)), objectsOf(streamOf(two))
	limit := max(sizeOf(a), sizeOf(b))
	s := silt.New(limit)
	for range 3 {
		mustSave(t, s, one)
		notSaved(t, s, two, api.ErrFull)
		s.Spoil(sha256.Sum256(a[3]), 1, a[3][1]+1)
		sweeps(t, s, len(a))
		wantCount(t, s, 0, 0)
		root := mustSave(t, s, two)
		wantCount(t, s, len(b), sizeOf(b))
		loads(t, s, root, two)
		refused(t, s, make([]byte, limit-sizeOf(b)+1), api.ErrFull)
		sweeps(t, s, len(b))
	}
}

// TestP9PiecesAreNotGot: they may be lost, spoilt, or be no pieces at all; what is under a digest that a list names stays.
func TestP9PiecesAreNotGot(t *testing.T) {
	r := rand.New(rand.NewSource(72))
	tree := wideTree(r, 25)
	text := streamOf(tree)
	s, root := saved(t, tree)
	var pieces [][32]byte
	for _, object := range objectsOf(text) {
		if object[0] == 0 {
			pieces = append(pieces, sha256.Sum256(object))
		}
	}
	n, _ := s.Count()
	for i, d := range pieces {
		if i%2 == 0 {
			s.Remove(d)
			n--
		} else {
			s.Spoil(d, 0, 9)
		}
	}
	sweeps(t, s, 0, root)
	if i, _ := s.Count(); i != n {
		t.Errorf("%d objects are left, want %d", i, n)
	}
	for i, d := range pieces {
		if i%2 == 0 {
			wantLost(t, s, d, api.ErrMissing)
		} else {
			wantLost(t, s, d, api.ErrBroken)
		}
	}
	mustSave(t, s, tree)
	loads(t, s, root, tree)

	// Of a wrong length, or no piece.
	s = silt.New(math.MaxInt)
	x, empty := pieceOf([]byte("x")), []byte(nil)
	mustPut(t, s, x)
	mustPut(t, s, empty)
	top := listOf(1, partOf(9, x), partOf(1, empty))
	root = mustPut(t, s, top)
	sweeps(t, s, 0, root)
	wantOnly(t, s, x, empty, top)
}

// TestP9ListsThatStandForPieces: they stay, but what they name does not, unless they are met as lists, too.
func TestP9ListsThatStandForPieces(t *testing.T) {
	x, y, z := pieceOf([]byte("x")), pieceOf([]byte("y")), pieceOf([]byte("z"))
	leaf, other := listOf(1, partOf(1, x)), listOf(1, partOf(1, y))
	high := listOf(2, partOf(1, leaf), partOf(1, other))
	top := listOf(1, partOf(1, z), partOf(2, high))
	all := [][]byte{x, y, z, leaf, other, high, top}
	filled := func() *silt.Store {
		s := silt.New(math.MaxInt)
		for _, b := range all {
			mustPut(t, s, b)
		}
		return s
	}
	d := func(b []byte) [32]byte { return sha256.Sum256(b) }
	s := filled()
	sweeps(t, s, 4, d(top))
	wantOnly(t, s, z, high, top)
	s = filled()
	sweeps(t, s, 0, d(top), d(high))
	s = filled()
	sweeps(t, s, 0, d(high), d(top))
	wantOnly(t, s, all...)
	s = filled()
	sweeps(t, s, 2, d(high))
	wantOnly(t, s, x, y, leaf, other, high)
	s = filled()
	sweeps(t, s, 5, d(leaf))
	wantOnly(t, s, x, leaf)
	// It is met, and it is not whole.
	s = filled()
	s.Remove(d(other))
	sweeps(t, s, 3, d(top))
	wantOnly(t, s, z, high, top)
	s = filled()
	s.Remove(d(other))
	notSwept(t, s, api.ErrMissing, d(other), d(top), d(high))
}

// TestP9MetBefore: a list that was found right at one place is asked again at each other place.
func TestP9MetBefore(t *testing.T) {
	s := silt.New(math.MaxInt)
	x := pieceOf([]byte("x"))
	leaf := listOf(1, partOf(1, x))
	single := listOf(2, partOf(1, leaf))
	three := listOf(3, partOf(1, single), partOf(1, single))
	long := listOf(2, partOf(1, leaf), partOf(2, leaf))
	tall := listOf(3, partOf(1, single), partOf(1, leaf))
	again := listOf(3, partOf(1, single), partOf(2, single))
	for _, b := range [][]byte{x, leaf, single, three, long, tall, again} {
		mustPut(t, s, b)
	}
	d := func(b []byte) [32]byte { return sha256.Sum256(b) }
	notSwept(t, s, api.ErrForm, d(leaf), d(long))               // of another length, in one list
	notSwept(t, s, api.ErrForm, d(leaf), d(leaf), d(long))      // as a root ahead of it
	notSwept(t, s, api.ErrForm, d(leaf), d(tall))               // on another level
	notSwept(t, s, api.ErrForm, d(leaf), d(three), d(tall))     //
	notSwept(t, s, api.ErrForm, d(single), d(again))            // of another length
	notSwept(t, s, api.ErrForm, d(single), d(three), d(single)) // as a top
	notSwept(t, s, api.ErrForm, d(single), d(single), d(three)) //
	notSwept(t, s, api.ErrForm, d(x), d(leaf), d(x))            // it was named, and not met
	sweeps(t, s, 3, d(three), d(three), d(leaf))
	wantOnly(t, s, x, leaf, single, three)
}

// TestP9Faults: each list on the way, lost or spoilt, in the order of the walk; and nothing is changed.
func TestP9Faults(t *testing.T) {
	r := rand.New(rand.NewSource(73))
	one, two := wideTree(r, 40), wideTree(r, 30)
	s, a := saved(t, one)
	b := mustSave(t, s, two)
	mustPut(t, s, []byte("needless"))
	whole := plainStore{math.MaxInt, map[[32]byte][]byte{}}
	lists := map[[32]byte][]int{} // of which of the two trees
	for i, tree := range [][]api.Entry{one, two} {
		for _, object := range objectsOf(streamOf(tree)) {
			whole.put(object)
			if d := sha256.Sum256(object); object[0] == 1 {
				lists[d] = append(lists[d], i)
			}
		}
	}
	for d, of := range lists {
		for _, code := range []int{api.ErrMissing, api.ErrBroken} {
			if code == api.ErrMissing {
				s.Remove(d)
			} else {
				s.Spoil(d, 2, whole.has[d][2]+1)
			}
			for _, roots := range [][][32]byte{{a, b}, {b, a}, {a, a, b, b}} {
				notSwept(t, s, code, d, roots...)
			}
			if of[0] == 0 {
				notSwept(t, s, code, d, a)
			} else {
				notSwept(t, s, code, d, b)
			}
			mustPut(t, s, whole.has[d])
		}
	}
	// Of two faults that of the first root is told.
	s.Spoil(b, 0, 7)
	s.Remove(a)
	notSwept(t, s, api.ErrMissing, a, a, b)
	notSwept(t, s, api.ErrBroken, b, b, a)
	notSwept(t, s, api.ErrMissing, nothing, nothing, b, a)
	mustSave(t, s, one)
	mustSave(t, s, two)
	loads(t, s, a, one)
	loads(t, s, b, two)
	wantGet(t, s, []byte("needless"))
	sweeps(t, s, 1, a, b)
}

// TestP9TopsOfAWrongForm: what P7 asks of a top is asked of each root.
func TestP9TopsOfAWrongForm(t *testing.T) {
	s := silt.New(math.MaxInt)
	x := pieceOf([]byte("x"))
	mustPut(t, s, x)
	leaf := listOf(1, partOf(1, x))
	good := mustPut(t, s, leaf)
	mustPut(t, s, []byte("needless"))
	for _, top := range [][]byte{
		nil, {0}, {1, 1}, {1, 1, 1}, {1, 0, 0}, {1, 9, 0}, {1, 2, 0}, {1, 1, 0, 0}, x,
		listOf(2, partOf(1, leaf)), listOf(1, partOf(0, x)), listOf(1, partOf(1, x), partOf(0, x)), listOf(1, slices.Repeat([]part{partOf(1, x)}, 9)...), listOf(1, partOf(65536, x), partOf(1, x)), listOf(1, partOf(1<<31, x), partOf(1<<31, x)),
	} {
		root := mustPut(t, s, top)
		notSwept(t, s, api.ErrForm, root, root)
		notSwept(t, s, api.ErrForm, root, good, root)
		notSwept(t, s, api.ErrForm, root, root, nothing)
		notSwept(t, s, api.ErrMissing, nothing, nothing, root)
	}
	// A list of just MaxStream bytes may be a root: its pieces are not asked.
	root := mustPut(t, s, listOf(1, partOf(65535, x), partOf(1, x)))
	empty := mustPut(t, s, []byte{1, 1, 0})
	n, _ := s.Count()
	sweeps(t, s, n-3, root, empty)
	wantOnly(t, s, x, []byte{1, 1, 0}, listOf(1, partOf(65535, x), partOf(1, x)))
}

// TestP9PartsOfAWrongForm: from level 2 on.
func TestP9PartsOfAWrongForm(t *testing.T) {
	s := silt.New(math.MaxInt)
	x := pieceOf([]byte("x"))
	mustPut(t, s, x)
	leaf := listOf(1, partOf(1, x))
	mustPut(t, s, leaf)
	for _, c := range []struct {
		level  int
		object []byte
	}{
		{2, x}, {2, nil}, {2, listOf(1)}, {2, listOf(1, partOf(2, x))}, {2, listOf(1, partOf(1, x), partOf(1, x))}, {2, listOf(2, partOf(1, leaf))}, {2, append(slices.Clone(leaf), 0)}, {2, listOf(1, partOf(1, x), partOf(0, x))},
		{3, leaf}, {3, listOf(2)}, {3, listOf(2, partOf(2, leaf))}, {3, listOf(3, partOf(1, leaf))}, {8, leaf}, {8, listOf(6, partOf(1, leaf))}, {8, listOf(8, partOf(1, leaf))},
	} {
		whole := partOf(1, x)
		for level := 1; level < c.level; level++ {
			whole.d = mustPut(t, s, listOf(level, whole))
		}
		d := mustPut(t, s, c.object)
		root := mustPut(t, s, listOf(c.level, whole, part{1, d}, part{1, nothing}))
		notSwept(t, s, api.ErrForm, d, root)
		notSwept(t, s, api.ErrForm, d, sha256.Sum256(leaf), root)
	}
}

// TestP9TangledStores holds Sweep against the document's words, in stores full of faults.
func TestP9TangledStores(t *testing.T) {
	r := rand.New(rand.NewSource(74))
	codes := map[int]int{}
	for range 400 {
		s, p := silt.New(math.MaxInt), plainStore{math.MaxInt, map[[32]byte][]byte{}}
		put := func(b []byte) { mustPut(t, s, b); p.put(b) }
		spoil := func(d [32]byte, at int, with byte) { s.Spoil(d, at, with); p.spoil(d, at, with) }
		remove := func(d [32]byte) { s.Remove(d); p.remove(d) }
		all := tangle(r, put, spoil, remove)
		for range 12 {
			var roots [][32]byte
			for range 1 + r.Intn(4) {
				if k := all[r.Intn(len(all))]; k.level > 0 {
					roots = append(roots, k.d)
				}
			}
			if len(roots) == 0 {
				continue
			}
			stays, f := p.sweep(roots)
			if codes[f.code]++; f.code != 0 {
				notSwept(t, s, f.code, f.of, roots...)
				continue
			}
			gone := 0
			for d := range p.has {
				if _, stay := stays[d]; !stay {
					gone++
				}
			}
			sweeps(t, s, gone, roots...)
			for d := range p.has {
				if _, stay := stays[d]; !stay {
					p.remove(d)
					wantLost(t, s, d, api.ErrMissing)
				}
			}
			wantCount(t, s, len(p.has), p.size())
			break
		}
		for d := range p.has {
			b, code := p.get(d)
			if code == 0 {
				wantGet(t, s, b)
			} else {
				wantLost(t, s, d, code)
			}
		}
	}
	for _, code := range []int{0, api.ErrMissing, api.ErrBroken, api.ErrForm} {
		if codes[code] < 30 {
			t.Errorf("the code %d came only %d times: the stores are too plain", code, codes[code])
		}
	}
}

// TestP1SweepEnds: lists that share their parts stand for far more lists than there are, and a root may be asked for many times.
func TestP1SweepEnds(t *testing.T) {
	s := silt.New(math.MaxInt)
	p := partOf(1, pieceOf([]byte("x")))
	mustPut(t, s, pieceOf([]byte("x")))
	for level := 1; level < 8; level++ {
		fan := 8
		if level < 3 {
			fan = 1
		}
		l := listOf(level, slices.Repeat([]part{p}, fan)...)
		p = part{p.n * fan, mustPut(t, s, l)}
	}
	root := mustPut(t, s, listOf(8, p, p))
	roots := slices.Repeat([][32]byte{root}, 20000)
	sweeps(t, s, 0, roots...)
	wantCount(t, s, 9, sizeOf([][]byte{{0, 'x'}})+2*39+5*(3+8*36)+3+2*36)
}

func TestP2RootsHandedInStay(t *testing.T) {
	r := rand.New(rand.NewSource(75))
	s := silt.New(math.MaxInt)
	a, b := mustSave(t, s, wideTree(r, 5)), mustSave(t, s, wideTree(r, 6))
	mark := [32]byte{0xaa}
	whole := [][32]byte{b, a, b, mark, mark}
	sweeps(t, s, 0, whole[:3]...)
	if n, err := s.Sweep(whole[:3]); n != 0 || err != nil {
		t.Errorf("Sweep = %d, %v", n, err)
	}
	notSwept(t, s, api.ErrMissing, mark, whole...)
	if !slices.Equal(whole, [][32]byte{b, a, b, mark, mark}) {
		t.Errorf("Sweep wrote into its roots or behind them: %x", whole)
	}
}
