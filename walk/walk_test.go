package walk_test

import (
	"bytes"
	"crypto/sha256"
	"errors"
	"fmt"
	"slices"
	"testing"

	"silt/api"
	"silt/walk"
)

// source has the objects of these tests, and tells what was asked for.
type source struct {
	has   map[[32]byte][]byte
	asked [][32]byte
}

func (s *source) Get(d [32]byte) ([]byte, error) {
	s.asked = append(s.asked, d)
	b, there := s.has[d]
	if !there {
		return nil, &api.Fault{Code: api.ErrMissing, Digest: d}
	}
	return bytes.Clone(b), nil
}

func (s *source) put(b ...byte) [32]byte {
	d := sha256.Sum256(b)
	s.has[d] = b
	return d
}

// list puts a list whose parts are all of one length.
func (s *source) list(level, length byte, parts ...[32]byte) [32]byte {
	b := []byte{1, level, byte(len(parts))}
	for _, d := range parts {
		b = append(append(b, 0, 0, 0, length), d[:]...)
	}
	return s.put(b...)
}

// wantWay: err is wrapped by these places, from the top down, and has this fault in it.
func wantWay(t *testing.T, err error, code int, of [32]byte, lists [][32]byte, parts []int) {
	t.Helper()
	for i, list := range lists {
		place, ok := err.(*walk.Place)
		if !ok {
			t.Fatalf("%v: %d places, want %d", err, i, len(lists))
		}
		if place.List != list || place.Part != parts[i] {
			t.Fatalf("place %d: part %d of %x, want part %d of %x", i, place.Part, place.List, parts[i], list)
		}
		err = place.Unwrap()
	}
	fault, ok := err.(*api.Fault)
	if !ok || fault.Code != code || fault.Digest != of {
		t.Fatalf("at the end of the way: %v, want the code %d of %x", err, code, of)
	}
}

func TestP7WhatGoesWrongIsWrapped(t *testing.T) {
	s := &source{has: map[[32]byte][]byte{}}
	piece := s.put(0, 'a', 'b', 'c')
	short := s.put(0, 'a')
	lost := sha256.Sum256([]byte("lost"))
	whole := s.list(1, 3, piece, piece)
	low := s.list(1, 3, piece, lost)
	wrong := s.list(1, 3, short, piece)
	middle := s.list(2, 6, whole, whole)
	left := s.list(2, 6, whole, low)
	right := s.list(2, 6, wrong, whole)
	top := s.list(3, 12, middle, left, right)

	_, err := walk.All(s, top)
	wantWay(t, err, api.ErrMissing, lost, [][32]byte{top, left, low}, []int{1, 1, 1})
	if !errors.Is(err, api.Lost) {
		t.Errorf("%v is not told as a loss", err)
	}
	_, err = walk.Some(s, top, 24, 1)
	wantWay(t, err, api.ErrForm, short, [][32]byte{top, right, wrong}, []int{2, 0, 0})
	if errors.Is(err, api.Lost) {
		t.Errorf("%v is told as a loss", err)
	}
	var fault *api.Fault
	if !errors.As(err, &fault) || fault.Digest != short {
		t.Errorf("no fault is found in %v", err)
	}
	// What is wrong with the top, or with what is asked for, has no way.
	_, err = walk.All(s, lost)
	wantWay(t, err, api.ErrMissing, lost, nil, nil)
	_, err = walk.All(s, piece)
	wantWay(t, err, api.ErrForm, piece, nil, nil)
	_, err = walk.Some(s, top, 30, 7)
	wantWay(t, err, api.ErrRange, [32]byte{}, nil, nil)
}

func TestP7TheTextOfAPlace(t *testing.T) {
	s := &source{has: map[[32]byte][]byte{}}
	lost := sha256.Sum256([]byte("lost"))
	top := s.list(1, 3, lost)
	_, err := walk.All(s, top)
	want := fmt.Sprintf("lost below part 0 of list %x: fault 1", top[:4])
	if err == nil || err.Error() != want {
		t.Errorf("the text is %v, want %s", err, want)
	}
	top = s.list(1, 3, top)
	_, err = walk.All(s, top)
	want = fmt.Sprintf("wrong below part 0 of list %x: fault 3", top[:4])
	if err == nil || err.Error() != want {
		t.Errorf("the text is %v, want %s", err, want)
	}
}

// TestP7OnlyWhatIsNeededIsGot: in the order of the walk, and each on the way just once.
func TestP7OnlyWhatIsNeededIsGot(t *testing.T) {
	s := &source{has: map[[32]byte][]byte{}}
	a, b := s.put(0, 'a', 'b', 'c'), s.put(0, 'd', 'e', 'f')
	one, two := s.list(1, 3, a, b), s.list(1, 3, b, a)
	top := s.list(2, 6, one, two)
	for _, c := range []struct {
		at, n int
		text  string
		asked [][32]byte
	}{
		{0, 0, "", [][32]byte{top}},
		{12, 0, "", [][32]byte{top}},
		{3, 0, "", [][32]byte{top}},
		{0, 3, "abc", [][32]byte{top, one, a}},
		{2, 1, "c", [][32]byte{top, one, a}},
		{2, 2, "cd", [][32]byte{top, one, a, b}},
		{5, 2, "fd", [][32]byte{top, one, b, two, b}},
		{9, 3, "abc", [][32]byte{top, two, a}},
		{0, 12, "abcdefdefabc", [][32]byte{top, one, a, b, two, b, a}},
	} {
		s.asked = nil
		text, err := walk.Some(s, top, c.at, c.n)
		if err != nil || string(text) != c.text {
			t.Errorf("%d bytes from %d on: %q, %v, want %q", c.n, c.at, text, err, c.text)
		}
		if len(s.asked) != len(c.asked) {
			t.Fatalf("%d bytes from %d on: %d objects were got, want %d", c.n, c.at, len(s.asked), len(c.asked))
		}
		for i, d := range c.asked {
			if s.asked[i] != d {
				t.Errorf("%d bytes from %d on: object %d is another one", c.n, c.at, i)
			}
		}
	}
	s.asked = nil
	if _, err := walk.Some(s, top, -1, 0); err == nil || len(s.asked) > 0 {
		t.Errorf("a place below 0: %v, and %d objects were got", err, len(s.asked))
	}
}

// wantAsked: these objects were got since the last look, in this order.
func (s *source) wantAsked(t *testing.T, what string, want ...[32]byte) {
	t.Helper()
	if !slices.Equal(s.asked, want) {
		t.Fatalf("%s: got %d objects %x, want %d: %x", what, len(s.asked), s.asked, len(want), want)
	}
	s.asked = nil
}

// TestP8AByteLeadsToItsPiece: nothing else is got, and nothing where the piece was just read.
func TestP8AByteLeadsToItsPiece(t *testing.T) {
	s := &source{has: map[[32]byte][]byte{}}
	lost := sha256.Sum256([]byte("lost"))
	a, b := s.put(0, 'a', 'b', 'c'), s.put(0, 'd', 'e', 'f')
	one, two, three := s.list(1, 3, a, b), s.list(1, 3, lost, a), s.list(1, 3, b, b)
	top := s.list(2, 6, one, two, three)
	text, err := walk.Open(s, top)
	if err != nil || text.Length() != 18 {
		t.Fatalf("Open: %v", err)
	}
	s.wantAsked(t, "Open", top)
	byteAt := func(at int, want byte) {
		t.Helper()
		if x, err := text.Byte(at); err != nil || x != want {
			t.Fatalf("byte %d is %q, %v, want %q", at, x, err, want)
		}
	}
	byteAt(1, 'b')
	s.wantAsked(t, "the first byte", one, a)
	byteAt(2, 'c')
	byteAt(0, 'a')
	byteAt(2, 'c')
	s.wantAsked(t, "bytes of the same piece")
	byteAt(3, 'd')
	s.wantAsked(t, "the next piece", one, b)
	if x, err := text.Byte(7); x != 0 || err == nil {
		t.Fatalf("a byte that is lost: %q, %v", x, err)
	} else {
		wantWay(t, err, api.ErrMissing, lost, [][32]byte{top, two}, []int{1, 0})
	}
	s.wantAsked(t, "a piece that is lost", two, lost)
	byteAt(5, 'f')
	s.wantAsked(t, "the piece ahead of it")
	byteAt(9, 'a')
	byteAt(17, 'f')
	s.wantAsked(t, "pieces behind it", two, a, three, b)
	byteAt(0, 'a')
	s.wantAsked(t, "back to the first piece", one, a)
	_, err = walk.Open(s, lost)
	wantWay(t, err, api.ErrMissing, lost, nil, nil)
	_, err = walk.Open(s, a)
	wantWay(t, err, api.ErrForm, a, nil, nil)
}

// TestP9OnlyListsAreGot, and what goes wrong is wrapped as elsewhere.
func TestP9OnlyListsAreGot(t *testing.T) {
	s := &source{has: map[[32]byte][]byte{}}
	a, b := s.put(0, 'a', 'b', 'c'), sha256.Sum256([]byte("lost"))
	one, two := s.list(1, 3, a, b), s.list(1, 3, b, b)
	high := s.list(2, 6, one, two)
	top := s.list(3, 12, high, high)
	needs, err := walk.Needs(s, [][32]byte{top, one})
	if err != nil {
		t.Fatal(err)
	}
	s.wantAsked(t, "Needs", top, high, one, two, high, one)
	for _, d := range [][32]byte{a, b, one, two, high, top} {
		if _, needed := needs[d]; !needed {
			t.Errorf("%x is not needed", d)
		}
	}
	if len(needs) != 6 {
		t.Errorf("%d objects are needed, want 6", len(needs))
	}
	wrong := s.list(2, 5, one)
	_, err = walk.Needs(s, [][32]byte{top, s.list(3, 5, wrong, wrong)})
	wantWay(t, err, api.ErrForm, one, [][32]byte{s.list(3, 5, wrong, wrong), wrong}, []int{0, 0})
	far := s.list(2, 6, one, b)
	_, err = walk.Needs(s, [][32]byte{far, top})
	wantWay(t, err, api.ErrMissing, b, [][32]byte{far}, []int{1})
	if needs, err = walk.Needs(s, nil); err != nil || len(needs) != 0 {
		t.Errorf("no roots need %d objects, %v", len(needs), err)
	}
}
