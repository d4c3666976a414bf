package entries

import "silt/api"

// Text is what entries are read from. Byte is asked only for places that the text has.
type Text interface {
	Length() int
	Byte(at int) (byte, error)
}

// Read tells the tree of a stream.
func Read(stream []byte) ([]api.Entry, error) {
	if len(stream) > api.MaxStream {
		return nil, &api.Fault{Code: api.ErrLong}
	}
	r := reader{text: whole(stream)}
	var tree []api.Entry
	for r.left() > 0 {
		e, length, err := r.head()
		if err != nil {
			return nil, err
		}
		e.Content = string(r.take(length))
		tree = append(tree, e)
	}
	return tree, nil
}

// whole is a text that is there with all its bytes.
type whole []byte

func (w whole) Length() int { return len(w) }

func (w whole) Byte(at int) (byte, error) { return w[at], nil }

// Extract tells the entries of a path and of all that lies below it. Of the others no content is read, and nothing behind the first head that comes behind all of these.
func Extract(text Text, path string) ([]api.Entry, error) {
	r := reader{text: text}
	var found []api.Entry
	for r.left() > 0 {
		e, length, err := r.head()
		if err != nil {
			return nil, err
		}
		if !isAtOrBelow(e.Path, path) {
			if comparePaths(e.Path, path) > 0 {
				break
			}
			r.skip(length)
			continue
		}
		e.Content = string(r.take(length))
		if r.err != nil {
			return nil, r.err
		}
		found = append(found, e)
	}
	if len(found) == 0 {
		return nil, &api.Fault{Code: api.ErrPath}
	}
	return found, nil
}

// reader reads a text byte by byte, as what is wrong with a byte is told ahead of what is wrong with those behind it. From the first error on it reads nothing more, and remembers it: so not every place need ask.
type reader struct {
	text Text
	at   int
	last api.Entry // whose head was read last
	err  error
}

func (r *reader) left() int { return r.text.Length() - r.at }

func (r *reader) skip(n int) { r.at += n }

// head reads an entry but for its content, whose length it tells, and asks whether it may stand here.
func (r *reader) head() (api.Entry, int, error) {
	var e api.Entry
	e.Kind = r.number(kindSize)
	e.Path = r.words(pathSize)
	e.Mode = r.number(modeSize)
	e.Time = r.number(timeSize)
	e.Notes = r.notes()
	length := r.number(contentSize)
	if r.err != nil {
		return api.Entry{}, 0, r.err
	}
	if !isHead(e, length) || !follows(r.last, e) || length > r.left() {
		return api.Entry{}, 0, noStream()
	}
	r.last = e
	return e, length, nil
}

func (r *reader) notes() []api.Note {
	var notes []api.Note
	for range r.number(countSize) {
		name := r.words(noteSize)
		notes = append(notes, api.Note{Name: name, Text: r.words(noteSize)})
	}
	return notes
}

// words reads a number of this size, and as many bytes.
func (r *reader) words(size int) string {
	return string(r.take(r.number(size)))
}

func (r *reader) number(size int) int {
	n := 0
	for _, b := range r.take(size) {
		n = n<<8 | int(b)
	}
	return n
}

// take reads n bytes, or those ahead of the first error.
func (r *reader) take(n int) []byte {
	out := make([]byte, 0, min(n, r.left()))
	for len(out) < n && r.err == nil {
		out = r.next(out)
	}
	return out
}

// next reads one byte behind out.
func (r *reader) next(out []byte) []byte {
	if r.left() == 0 {
		r.err = noStream()
		return out
	}
	b, err := r.text.Byte(r.at)
	if err != nil {
		r.err = err
		return out
	}
	r.at++
	return append(out, b)
}

func noStream() error { return &api.Fault{Code: api.ErrStream} }
