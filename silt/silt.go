// Package silt: files kept as pieces: see DOC.md.
package silt

import (
	"errors"
	"sync"

	"silt/api"
	"silt/cut"
	"silt/digest"
	"silt/entries"
	"silt/objects"
	"silt/pieces"
	"silt/walk"
)

// Digest is SHA-256 (P3).
func Digest(b []byte) [32]byte { return digest.Sum(b) }

// Cuts tells the lengths of a text's chunks (P3).
func Cuts(text []byte) []int { return cut.Lengths(text) }

// Cutter cuts a text that comes piece by piece.
type Cutter struct {
	text cut.Cutter
}

// NewCutter begins a text (P3).
func NewCutter() *Cutter { return &Cutter{} }

// Write takes a piece (P3). A nil cutter has no text, and must not panic (P1).
func (c *Cutter) Write(b []byte) []int {
	if c == nil {
		return nil
	}
	return c.text.Write(b)
}

// Close ends the text (P3).
func (c *Cutter) Close() []int {
	if c == nil {
		return nil
	}
	return c.text.Close()
}

// Stream writes a tree (P4).
func Stream(tree []api.Entry) ([]byte, error) { return entries.Write(tree) }

// Tree reads a stream (P4).
func Tree(stream []byte) ([]api.Entry, error) { return entries.Read(stream) }

// Store keeps objects under their digests. Each call holds the guard from its first look to its last, so that calls are done one behind the other (P2).
type Store struct {
	guard sync.Mutex
	shelf *objects.Shelf
}

// New makes an empty store (P5).
func New(limit int) *Store { return &Store{shelf: objects.New(limit)} }

// Put lays an object by (P5).
func (s *Store) Put(object []byte) ([32]byte, error) {
	s.guard.Lock()
	defer s.guard.Unlock()
	return s.shelf.Put(object)
}

// Get tells an object (P5).
func (s *Store) Get(d [32]byte) ([]byte, error) {
	s.guard.Lock()
	defer s.guard.Unlock()
	return s.shelf.Get(d)
}

// Remove takes an object away (P5).
func (s *Store) Remove(d [32]byte) bool {
	s.guard.Lock()
	defer s.guard.Unlock()
	return s.shelf.Remove(d)
}

// Spoil turns a byte (P5).
func (s *Store) Spoil(d [32]byte, at int, with byte) bool {
	s.guard.Lock()
	defer s.guard.Unlock()
	return s.shelf.Spoil(d, at, with)
}

// Count tells how many objects and bytes there are (P5).
func (s *Store) Count() (int, int) {
	s.guard.Lock()
	defer s.guard.Unlock()
	return s.shelf.Count()
}

// Save keeps a tree (P6).
func (s *Store) Save(tree []api.Entry) ([32]byte, error) {
	text, err := entries.Write(tree)
	if err != nil {
		return [32]byte{}, err
	}
	all := objects.Batch{}
	root := pieces.Root(text, all.Add)
	s.guard.Lock()
	defer s.guard.Unlock()
	if err := s.shelf.PutAll(all); err != nil {
		return [32]byte{}, err
	}
	return root, nil
}

// Load tells a tree (P7).
func (s *Store) Load(root [32]byte) ([]api.Entry, error) {
	s.guard.Lock()
	defer s.guard.Unlock()
	text, err := walk.All(s.shelf, root)
	if err != nil {
		return nil, plain(err)
	}
	tree, err := entries.Read(text)
	// Other lists may make the text of a tree, too; but a tree has only one root.
	if err != nil || pieces.Root(text, digest.Sum) != root {
		return nil, &api.Fault{Code: api.ErrStream, Digest: root}
	}
	return tree, nil
}

// Read tells some bytes of a text (P7).
func (s *Store) Read(root [32]byte, from int, n int) ([]byte, error) {
	s.guard.Lock()
	defer s.guard.Unlock()
	b, err := walk.Some(s.shelf, root, from, n)
	return b, plain(err)
}

// Extract tells the entries at a path and below it (P8).
func (s *Store) Extract(root [32]byte, path string) ([]api.Entry, error) {
	if !entries.IsPath(path) {
		return nil, &api.Fault{Code: api.ErrEntry}
	}
	s.guard.Lock()
	defer s.guard.Unlock()
	text, err := walk.Open(s.shelf, root)
	if err != nil {
		return nil, plain(err)
	}
	found, err := entries.Extract(text, path)
	if err != nil {
		return nil, ofRoot(root, err)
	}
	return found, nil
}

// Sweep takes away what no root needs (P9).
func (s *Store) Sweep(roots [][32]byte) (int, error) {
	s.guard.Lock()
	defer s.guard.Unlock()
	needed, err := walk.Needs(s.shelf, roots)
	if err != nil {
		return 0, plain(err)
	}
	return s.shelf.Keep(needed), nil
}

// plain finds the fault in what was wrapped on its way up: a call answers nothing else.
func plain(err error) error {
	var fault *api.Fault
	if errors.As(err, &fault) {
		return fault
	}
	return err
}

// ofRoot tells of the root that its text is no stream of a tree: who reads entries knows no root. Other faults speak for themselves.
func ofRoot(root [32]byte, err error) error {
	var fault *api.Fault
	if errors.As(err, &fault) && fault.Code == api.ErrStream {
		return &api.Fault{Code: api.ErrStream, Digest: root}
	}
	return plain(err)
}
