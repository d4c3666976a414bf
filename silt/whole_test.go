package silt_test

import (
	"crypto/sha256"
	"math"
	"math/rand"
	"reflect"
	"slices"
	"testing"

	"silt/api"
	"silt/silt"
)

// likeIt tells trees that differ from one in one thing each.
func likeIt(tree []api.Entry) [][]api.Entry {
	var out [][]api.Entry
	change := func(i int, how func(e *api.Entry)) {
		other := slices.Clone(tree)
		other[i].Notes = slices.Clone(other[i].Notes)
		how(&other[i])
		if _, err := silt.Stream(other); err == nil {
			out = append(out, other)
		}
	}
	for i, e := range tree {
		change(i, func(e *api.Entry) { e.Path += "!" })
		change(i, func(e *api.Entry) { e.Mode ^= 1 })
		change(i, func(e *api.Entry) { e.Time ^= 1 << 39 })
		change(i, func(e *api.Entry) { e.Notes = append(e.Notes, api.Note{Name: "\xff"}) })
		change(i, func(e *api.Entry) { e.Content += "!" })
		change(i, func(e *api.Entry) { e.Kind = api.File })
		change(i, func(e *api.Entry) { e.Kind = api.Link })
		for j := range e.Notes {
			change(i, func(e *api.Entry) { e.Notes[j].Text += "!" })
			change(i, func(e *api.Entry) { e.Notes[j].Name += "!" })
		}
		if other := slices.Delete(slices.Clone(tree), i, i+1); inOrder(other) {
			out = append(out, other)
		}
	}
	return out
}

// TestP10OneRootForEachTree, and the tree for each root.
func TestP10OneRootForEachTree(t *testing.T) {
	r := rand.New(rand.NewSource(80))
	trees := append(someTrees(), wideTree(r, 10), treeOfChunks(t, r, 9))
	for _, tree := range slices.Clone(trees) {
		trees = append(trees, likeIt(tree)...)
	}
	s := silt.New(math.MaxInt)
	streams := map[[32]byte]string{}
	for _, tree := range trees {
		root := mustSave(t, s, tree)
		text := string(streamOf(tree))
		if other, there := streams[root]; there && other != text {
			t.Fatalf("two trees have the root %x: %.200q and %.200q", root, text, other)
		}
		streams[root] = text
		if again, err := silt.New(math.MaxInt).Save(slices.Clone(tree)); err != nil || again != root {
			t.Fatalf("the same tree has the roots %x and %x, %v", root, again, err)
		}
	}
	for _, tree := range trees {
		loads(t, s, rootOf(streamOf(tree)), tree)
	}
	if len(streams) < 150 {
		t.Errorf("only %d trees", len(streams))
	}
}

func TestP10SavedAgainAddsNothing(t *testing.T) {
	r := rand.New(rand.NewSource(81))
	s := silt.New(math.MaxInt)
	trees := append(someTrees(), wideTree(r, 30), wideTree(r, 80))
	for _, tree := range trees {
		mustSave(t, s, tree)
	}
	n, m := s.Count()
	for _, tree := range trees {
		mustSave(t, s, tree)
		wantCount(t, s, n, m)
	}
}

// endsOf tells where the chunks of a text end.
func endsOf(text []byte) []int {
	var ends []int
	at := 0
	for _, n := range silt.Cuts(text) {
		at += n
		ends = append(ends, at)
	}
	return ends
}

// TestP10CommonCuts: from the first one on that two texts have in common, with the same bytes behind it, all are common.
func TestP10CommonCuts(t *testing.T) {
	r := rand.New(rand.NewSource(82))
	met := 0
	for round := range 200 {
		tail := noise(r, 2000+r.Intn(2000), []int{256, 256, 3}[round%3])
		a := append(noise(r, r.Intn(500), 256), tail...)
		b := append(noise(r, r.Intn(500), 256), tail...)
		// Counted from the end, as the texts are of different lengths.
		left := func(text []byte) []int {
			var out []int
			for _, end := range endsOf(text) {
				if len(text)-end <= len(tail) {
					out = append(out, len(text)-end)
				}
			}
			return out
		}
		x, y := left(a), left(b)
		for i, n := range x {
			if j := slices.Index(y, n); j >= 0 {
				if !slices.Equal(x[i:], y[j:]) {
					t.Fatalf("behind a common cut others differ: %v and %v", x[i:], y[j:])
				}
				if n > 0 {
					met++
				}
				break
			}
		}
	}
	if met < 100 {
		t.Errorf("only %d of 200 texts met ahead of their end", met)
	}
}

// TestP10AChangeAddsFewPieces: of a text of several hundred, wherever it is changed.
func TestP10AChangeAddsFewPieces(t *testing.T) {
	r := rand.New(rand.NewSource(83))
	tree := wideTree(r, 150)
	size := len(silt.Cuts(streamOf(tree)))
	if size < 250 {
		t.Fatalf("the tree has only %d pieces", size)
	}
	known := map[[32]byte]int{}
	for _, object := range objectsOf(streamOf(tree)) {
		known[sha256.Sum256(object)]++
	}
	for range 40 {
		s, _ := saved(t, tree)
		before, _ := s.Count()
		other := slices.Clone(tree)
		i := 2 + r.Intn(150)
		switch r.Intn(3) {
		case 0:
			other[i].Content = "!" + other[i].Content
		case 1:
			other[i].Time++
		default:
			other = slices.Delete(other, i, i+1)
		}
		root := mustSave(t, s, other)
		after, _ := s.Count()
		added := 0
		for _, object := range objectsOf(streamOf(other)) {
			if object[0] == 0 && known[sha256.Sum256(object)] == 0 {
				added++
			}
		}
		if added > 12 {
			t.Errorf("a change at entry %d adds %d pieces of %d", i, added, size)
		}
		if after-before < added {
			t.Errorf("%d pieces are new, but only %d objects were added", added, after-before)
		}
		loads(t, s, root, other)
	}
}

// TestP10NothingSpoiltIsToldAsWhole: each object of two trees, each call that tells something of them; and who saves again has it whole.
func TestP10NothingSpoiltIsToldAsWhole(t *testing.T) {
	r := rand.New(rand.NewSource(84))
	one := wideTree(r, 12)
	two := slices.Clone(one)
	two[5].Content += "!"
	trees := [][]api.Entry{one, two}
	s := silt.New(math.MaxInt)
	var roots [][32]byte
	for _, tree := range trees {
		roots = append(roots, mustSave(t, s, tree))
	}
	all := append(objectsOf(streamOf(one)), objectsOf(streamOf(two))...)
	paths := []string{"d", "d/e", "d/e/1003", "d/e/1011", "l", "z"}
	same := func(what string, got, want any, err error, code int, d [32]byte) int {
		t.Helper()
		if err == nil {
			if !reflect.DeepEqual(got, want) {
				t.Fatalf("%s: something else is told as if it were whole", what)
			}
			return 0
		}
		if reflect.ValueOf(got).Len() != 0 {
			t.Fatalf("%s: something is told beside an error", what)
		}
		wantLoss(t, what, err, code, d)
		return 1
	}
	for round, object := range slices.Concat(all, all) {
		d := sha256.Sum256(object)
		code := api.ErrMissing
		if round < len(all) {
			s.Remove(d)
		} else {
			code = api.ErrBroken
			at := r.Intn(len(object))
			s.Spoil(d, at, object[at]^byte(1+r.Intn(255)))
		}
		found := 0
		for i, tree := range trees {
			got, err := s.Load(roots[i])
			found += same("Load", got, tree, err, code, d)
			text := streamOf(tree)
			for at := 0; at < len(text); at += 50 {
				n := min(80, len(text)-at)
				b, err := s.Read(roots[i], at, n)
				same("Read", b, text[at:at+n], err, code, d)
			}
			for _, path := range paths {
				got, err := s.Extract(roots[i], path)
				same("Extract", got, below(tree, path), err, code, d)
			}
		}
		if found == 0 {
			t.Fatal("a tree is told whole without one of its objects")
		}
		for i, tree := range trees {
			if again := mustSave(t, s, tree); again != roots[i] {
				t.Fatalf("saved again, the root is %x, want %x", again, roots[i])
			}
		}
		wantGet(t, s, object)
		for i, tree := range trees {
			loads(t, s, roots[i], tree)
		}
	}
}

// TestP10OtherPiecesMayBeLost: Read and Extract tell what they tell of a whole store.
func TestP10OtherPiecesMayBeLost(t *testing.T) {
	r := rand.New(rand.NewSource(85))
	tree := wideTree(r, 20)
	text := streamOf(tree)
	p := plainStore{math.MaxInt, map[[32]byte][]byte{}}
	for _, object := range objectsOf(text) {
		p.put(object)
	}
	root := rootOf(text)
	for range 60 {
		s, _ := saved(t, tree)
		path := tree[r.Intn(len(tree))].Path
		_, _, met := p.extract(root, path)
		from := r.Intn(len(text))
		n := r.Intn(min(300, len(text)-from) + 1)
		_, _, way := p.read(root, from, n)
		for _, d := range way {
			met[d]++
		}
		for d, b := range p.has {
			if _, needed := met[d]; !needed && b[0] == 0 && r.Intn(4) > 0 {
				if r.Intn(2) == 0 {
					s.Remove(d)
				} else {
					s.Spoil(d, 1, b[1]+1)
				}
			}
		}
		extracts(t, s, root, path, below(tree, path))
		reads(t, s, root, from, text[from:from+n])
	}
}

// TestP10WhatSweepLeaves: all of it is needed to load the roots, and no more.
func TestP10WhatSweepLeaves(t *testing.T) {
	r := rand.New(rand.NewSource(86))
	base := wideTree(r, 15)
	s := silt.New(math.MaxInt)
	var trees [][]api.Entry
	var roots [][32]byte
	for i := range 8 {
		tree := slices.Clone(base)
		tree[2+i].Content += "!"
		trees = append(trees, tree)
		roots = append(roots, mustSave(t, s, tree))
	}
	_, err := s.Sweep([][32]byte{roots[1], roots[6]})
	wantNoError(t, "Sweep", err)
	var needed [][]byte
	for _, i := range []int{1, 6} {
		loads(t, s, roots[i], trees[i])
		needed = append(needed, objectsOf(streamOf(trees[i]))...)
	}
	wantOnly(t, s, needed...)
	for _, object := range needed {
		d := sha256.Sum256(object)
		s.Remove(d)
		_, one := s.Load(roots[1])
		_, two := s.Load(roots[6])
		if one == nil && two == nil {
			t.Fatalf("%x is needed by no root", d)
		}
		mustPut(t, s, object)
	}
	for i, tree := range trees {
		if i != 1 && i != 6 {
			notLoaded(t, s, roots[i], api.ErrMissing, roots[i])
		}
		mustSave(t, s, tree)
		loads(t, s, roots[i], tree)
	}
}
