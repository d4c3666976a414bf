package silt_test

import (
	"bytes"
	"crypto/sha256"
	"math"
	"math/rand"
	"slices"
	"strconv"
	"sync"
	"testing"

	"silt/api"
	"silt/silt"
)

// mustPut puts an object that finds room, and tells its digest.
func mustPut(t *testing.T, s *silt.Store, object []byte) [32]byte {
	t.Helper()
	d, err := s.Put(object)
	wantNoError(t, "Put", err)
	if d != sha256.Sum256(object) {
		t.Fatalf("Put of %.40q = %x, want %x", object, d, sha256.Sum256(object))
	}
	return d
}

// refused: Put answers this error, no digest, and changes nothing that Count tells.
func refused(t *testing.T, s *silt.Store, object []byte, code int) {
	t.Helper()
	n, m := s.Count()
	d, err := s.Put(object)
	wantFault(t, "Put of "+strconv.Itoa(len(object))+" bytes", err, code)
	if d != [32]byte{} {
		t.Fatalf("Put = %x beside an error", d)
	}
	wantCount(t, s, n, m)
}

// wantGet: the store has this object under its digest.
func wantGet(t *testing.T, s *silt.Store, object []byte) {
	t.Helper()
	got, err := s.Get(sha256.Sum256(object))
	wantNoError(t, "Get", err)
	if !bytes.Equal(got, object) {
		t.Fatalf("Get = %.40q, want %.40q", got, object)
	}
}

// wantLost: Get answers this error, and nothing beside it.
func wantLost(t *testing.T, s *silt.Store, d [32]byte, code int) {
	t.Helper()
	got, err := s.Get(d)
	wantLoss(t, "Get", err, code, d)
	if len(got) != 0 {
		t.Fatalf("Get = %.40q beside an error", got)
	}
}

func wantCount(t *testing.T, s *silt.Store, n, m int) {
	t.Helper()
	if i, k := s.Count(); i != n || k != m {
		t.Fatalf("Count = %d, %d, want %d, %d", i, k, n, m)
	}
}

func TestP5Examples(t *testing.T) {
	s := silt.New(1000)
	wantCount(t, s, 0, 0)
	never := sha256.Sum256([]byte("never put"))
	wantLost(t, s, never, api.ErrMissing)
	wantLost(t, s, [32]byte{}, api.ErrMissing)
	d := mustPut(t, s, []byte("x"))
	if !s.Spoil(d, 0, 'y') {
		t.Error("Spoil of what is there: false")
	}
	wantLost(t, s, d, api.ErrBroken)

	s = silt.New(3)
	mustPut(t, s, []byte{1, 1, 0})
	wantCount(t, s, 1, 3)
}

func TestP5ObjectsOfAllLengths(t *testing.T) {
	r := rand.New(rand.NewSource(20))
	s, other := silt.New(math.MaxInt), silt.New(math.MaxInt)
	var objects [][]byte
	size := 0
	for n := range api.MaxObject + 1 {
		b := noise(r, n, 256)
		mustPut(t, s, b)
		size += n
		wantCount(t, s, n+1, size)
		objects = append(objects, b)
	}
	for _, b := range objects {
		wantGet(t, s, b)
		wantLost(t, other, sha256.Sum256(b), api.ErrMissing)
	}
	wantCount(t, other, 0, 0)
}

func TestP5LongObjects(t *testing.T) {
	for _, limit := range []int{math.MinInt, -1, 0, 512, 513, 100000, math.MaxInt} {
		s := silt.New(limit)
		for _, n := range []int{513, 514, 600, 1 << 20} {
			refused(t, s, make([]byte, n), api.ErrLong)
			wantLost(t, s, sha256.Sum256(make([]byte, n)), api.ErrMissing)
		}
	}
	s := silt.New(512)
	mustPut(t, s, make([]byte, 512))
	wantGet(t, s, make([]byte, 512))
	// Too long, and no room for it either: what is named first is told.
	refused(t, s, make([]byte, 513), api.ErrLong)
}

func TestP5AStoreThatIsJustFull(t *testing.T) {
	a, b, c := bytes.Repeat([]byte("a"), 512), bytes.Repeat([]byte("b"), 88), bytes.Repeat([]byte("b"), 89)
	s := silt.New(600)
	mustPut(t, s, a)
	refused(t, s, c, api.ErrFull)
	wantLost(t, s, sha256.Sum256(c), api.ErrMissing)
	mustPut(t, s, b)
	wantCount(t, s, 2, 600)
	refused(t, s, []byte("c"), api.ErrFull)
	refused(t, s, c, api.ErrFull)
	mustPut(t, s, a)
	mustPut(t, s, b)
	mustPut(t, s, nil)
	wantCount(t, s, 3, 600)
	for _, object := range [][]byte{a, b, nil} {
		wantGet(t, s, object)
	}
	if !s.Remove(sha256.Sum256(b)) {
		t.Error("Remove of what is there: false")
	}
	wantCount(t, s, 2, 512)
	refused(t, s, c, api.ErrFull)
	mustPut(t, s, c[:87])
	mustPut(t, s, []byte("c"))
	refused(t, s, []byte("d"), api.ErrFull)
	wantCount(t, s, 4, 600)
}

func TestP5LimitsOfZeroAndBelow(t *testing.T) {
	for _, limit := range []int{-1, -2, -513, math.MinInt + 1, math.MinInt} {
		s := silt.New(limit)
		for _, object := range [][]byte{nil, {}, {0}, make([]byte, 512)} {
			refused(t, s, object, api.ErrFull)
			wantLost(t, s, sha256.Sum256(object), api.ErrMissing)
		}
		wantCount(t, s, 0, 0)
	}
	s := silt.New(0)
	refused(t, s, []byte{0}, api.ErrFull)
	mustPut(t, s, nil)
	wantCount(t, s, 1, 0)
	wantGet(t, s, nil)
	mustPut(t, s, []byte{})
	wantCount(t, s, 1, 0)
	refused(t, s, []byte{0}, api.ErrFull)
	s = silt.New(1)
	mustPut(t, s, []byte{0})
	refused(t, s, []byte{1}, api.ErrFull)
}

func TestP5PutTwice(t *testing.T) {
	for _, limit := range []int{5, 1000} {
		s := silt.New(limit)
		d := mustPut(t, s, []byte("twice"))
		for range 3 {
			if mustPut(t, s, []byte("twice")) != d {
				t.Error("one object has two digests")
			}
			wantCount(t, s, 1, 5)
			wantGet(t, s, []byte("twice"))
		}
	}
}

// TestP5PutAgainWhereSpoilt: it is whole again, though the store is full.
func TestP5PutAgainWhereSpoilt(t *testing.T) {
	for _, limit := range []int{5, 1000} {
		s := silt.New(limit)
		d := mustPut(t, s, []byte("whole"))
		for at := range 5 {
			for last := range at + 1 {
				s.Spoil(d, last, '?')
			}
			wantLost(t, s, d, api.ErrBroken)
			wantCount(t, s, 1, 5)
			mustPut(t, s, []byte("whole"))
			wantGet(t, s, []byte("whole"))
			wantCount(t, s, 1, 5)
		}
	}
}

func TestP5SpoilAtAllPlaces(t *testing.T) {
	s := silt.New(1000)
	object := bytes.Repeat([]byte("0123456789abcdef"), 32)
	d, other := mustPut(t, s, object), mustPut(t, s, []byte("other"))
	empty := mustPut(t, s, nil)
	for _, at := range []int{-1, -2, 512, 513, math.MinInt, math.MinInt + 1, math.MaxInt, -512} {
		if s.Spoil(d, at, '?') {
			t.Errorf("Spoil at %d of 512 bytes: true", at)
		}
	}
	for _, at := range []int{-1, 0, 1, math.MinInt, math.MaxInt} {
		if s.Spoil(empty, at, '?') || s.Spoil([32]byte{}, at, '?') {
			t.Errorf("Spoil at %d of what has no byte: true", at)
		}
	}
	wantGet(t, s, object)
	wantGet(t, s, nil)
	for at, b := range object {
		for _, with := range []byte{b, b + 1, b} {
			if !s.Spoil(d, at, with) {
				t.Fatalf("Spoil at %d: false", at)
			}
			if with == b {
				wantGet(t, s, object)
			} else {
				wantLost(t, s, d, api.ErrBroken)
			}
		}
		wantCount(t, s, 3, 517)
	}
	wantGet(t, s, []byte("other"))
	if !s.Spoil(other, 4, '?') || s.Spoil(other, 5, '?') {
		t.Error("Spoil at the last place and behind it")
	}
	wantLost(t, s, other, api.ErrBroken)
	wantGet(t, s, object)
}

// TestP5SpoiltIntoAnotherObject: what is under a digest is asked for its own, not whether some object of the store is like it.
func TestP5SpoiltIntoAnotherObject(t *testing.T) {
	s := silt.New(2)
	x, y := mustPut(t, s, []byte("x")), mustPut(t, s, []byte("y"))
	s.Spoil(x, 0, 'y')
	wantLost(t, s, x, api.ErrBroken)
	wantGet(t, s, []byte("y"))
	s.Spoil(y, 0, 'x')
	wantLost(t, s, x, api.ErrBroken)
	wantLost(t, s, y, api.ErrBroken)
	refused(t, s, []byte("z"), api.ErrFull)
	mustPut(t, s, []byte("x"))
	wantGet(t, s, []byte("x"))
	wantLost(t, s, y, api.ErrBroken)
	wantCount(t, s, 2, 2)
}

func TestP5Remove(t *testing.T) {
	s := silt.New(1000)
	d, e, empty := mustPut(t, s, []byte("one")), mustPut(t, s, []byte("three")), mustPut(t, s, nil)
	if s.Remove([32]byte{}) || s.Remove(sha256.Sum256([]byte("two"))) {
		t.Error("Remove of what is not there: true")
	}
	wantCount(t, s, 3, 8)
	s.Spoil(d, 0, '?')
	if !s.Remove(d) || s.Remove(d) {
		t.Error("Remove of what is spoilt, twice")
	}
	wantLost(t, s, d, api.ErrMissing)
	wantCount(t, s, 2, 5)
	if !s.Remove(empty) || s.Remove(empty) {
		t.Error("Remove of the empty object, twice")
	}
	wantLost(t, s, empty, api.ErrMissing)
	wantGet(t, s, []byte("three"))
	if s.Spoil(d, 0, 'o') {
		t.Error("Spoil of what was removed: true")
	}
	mustPut(t, s, []byte("one"))
	wantGet(t, s, []byte("one"))
	wantCount(t, s, 2, 8)
	if !s.Remove(e) || !s.Remove(d) {
		t.Error("Remove of what is there: false")
	}
	wantCount(t, s, 0, 0)
}

// plainStore does what P5 says, by its words.
type plainStore struct {
	limit int
	has   map[[32]byte][]byte
}

func (p plainStore) size() int {
	sum := 0
	for _, b := range p.has {
		sum += len(b)
	}
	return sum
}

func (p plainStore) put(b []byte) (code int) {
	d := sha256.Sum256(b)
	switch _, there := p.has[d]; {
	case len(b) > 512:
		return api.ErrLong
	case !there && p.size()+len(b) > p.limit:
		return api.ErrFull
	}
	p.has[d] = bytes.Clone(b)
	return 0
}

func (p plainStore) get(d [32]byte) ([]byte, int) {
	b, there := p.has[d]
	if !there {
		return nil, api.ErrMissing
	}
	if sha256.Sum256(b) != d {
		return nil, api.ErrBroken
	}
	return b, 0
}

func (p plainStore) spoil(d [32]byte, at int, with byte) bool {
	if at < 0 || at >= len(p.has[d]) {
		return false
	}
	p.has[d][at] = with
	return true
}

func (p plainStore) remove(d [32]byte) bool {
	_, there := p.has[d]
	delete(p.has, d)
	return there
}

// codeOf tells 0 for no error.
func codeOf(err error) int {
	if f, ok := err.(*api.Fault); ok {
		return f.Code
	}
	return 0
}

// TestP5ManyCalls holds a store against a plain one, call by call.
func TestP5ManyCalls(t *testing.T) {
	r := rand.New(rand.NewSource(21))
	lengths := []int{0, 1, 2, 3, 64, 300, 511, 512, 513}
	var objects [][]byte
	for i := range 24 {
		objects = append(objects, bytes.Repeat([]byte{byte(i)}, lengths[i%len(lengths)]))
	}
	for _, limit := range []int{-1, 0, 3, 600, 1300, 2000, 100000} {
		s, p := silt.New(limit), plainStore{limit, map[[32]byte][]byte{}}
		for i := range 3000 {
			b := objects[r.Intn(len(objects))]
			d := sha256.Sum256(b)
			ok := true
			switch kind := r.Intn(9); kind {
			case 0, 1, 2:
				got, err := s.Put(b)
				code := p.put(b)
				ok = codeOf(err) == code && (got == d) == (code == 0)
			case 3, 4, 5:
				got, err := s.Get(d)
				want, code := p.get(d)
				ok = codeOf(err) == code && bytes.Equal(got, want)
			case 6, 7:
				at, with := r.Intn(len(b)+5)-2, byte(r.Intn(24))
				ok = s.Spoil(d, at, with) == p.spoil(d, at, with)
			case 8:
				ok = s.Remove(d) == p.remove(d)
			}
			if !ok {
				t.Fatalf("limit %d, call %d, an object of %d bytes: not what the promise says", limit, i, len(b))
			}
			wantCount(t, s, len(p.has), p.size())
		}
	}
}

// TestP1StoreFaultsAreNew: who writes into a fault changes neither another one nor the store.
func TestP1StoreFaultsAreNew(t *testing.T) {
	s := silt.New(1)
	d := mustPut(t, s, []byte("x"))
	s.Spoil(d, 0, 'y')
	missing := sha256.Sum256([]byte("missing"))
	for range 2 {
		_, long := s.Put(make([]byte, 513))
		_, full := s.Put([]byte("z"))
		_, broken := s.Get(d)
		_, lost := s.Get(missing)
		wantFault(t, "Put", long, api.ErrLong)
		wantFault(t, "Put", full, api.ErrFull)
		wantLoss(t, "Get", broken, api.ErrBroken, d)
		wantLoss(t, "Get", lost, api.ErrMissing, missing)
		for _, err := range []error{long, full, broken, lost} {
			*err.(*api.Fault) = api.Fault{Code: 77, Digest: [32]byte{7}}
		}
	}
}

func TestP2ObjectsHandedInStay(t *testing.T) {
	r := rand.New(rand.NewSource(22))
	s := silt.New(600)
	for _, n := range []int{0, 1, 55, 56, 64, 512, 512, 513} {
		object := noise(r, n, 256)
		list, whole := roomy(object)
		kept := bytes.Clone(whole)
		d, _ := s.Put(list)
		s.Put(list)
		s.Spoil(d, 0, whole[0]+1)
		s.Put(list)
		s.Remove(d)
		if !bytes.Equal(whole, kept) {
			t.Fatalf("a call wrote into an object of %d bytes or behind it", n)
		}
	}
}

func TestP2NoObjectHandedInIsKept(t *testing.T) {
	s := silt.New(1000)
	for _, text := range []string{"x", "some more bytes"} {
		// First where nothing is, then where it is already.
		for range 2 {
			object, _ := roomy([]byte(text))
			mustPut(t, s, object)
			scribble(object, 0xbb)
			wantGet(t, s, []byte(text))
		}
	}
}

func TestP2ObjectsToldAreNewMemory(t *testing.T) {
	s := silt.New(1000)
	texts := []string{"", "x", "some more bytes", string(make([]byte, 512))}
	for _, text := range texts {
		mustPut(t, s, []byte(text))
	}
	for _, text := range texts {
		d := sha256.Sum256([]byte(text))
		first, err := s.Get(d)
		wantNoError(t, "Get", err)
		second, err := s.Get(d)
		wantNoError(t, "Get", err)
		scribble(first, 0xcc)
		if string(second) != text {
			t.Errorf("two answers of Get share room: %.40q, want %.40q", second, text)
		}
		for _, other := range texts {
			wantGet(t, s, []byte(other))
		}
		s.Spoil(d, 0, '?')
		if string(second) != text {
			t.Errorf("Spoil changed what Get told: %.40q, want %.40q", second, text)
		}
		mustPut(t, s, []byte(text))
	}
}

// TestP2StoresAreApart: what one does is not to be seen in another one.
func TestP2StoresAreApart(t *testing.T) {
	s, other := silt.New(10), silt.New(10)
	d := mustPut(t, s, []byte("0123456789"))
	mustPut(t, other, []byte("0123456789"))
	s.Spoil(d, 3, '?')
	wantGet(t, other, []byte("0123456789"))
	other.Remove(d)
	wantLost(t, s, d, api.ErrBroken)
	wantLost(t, other, d, api.ErrMissing)
	mustPut(t, other, []byte("abc"))
	wantCount(t, s, 1, 10)
	wantCount(t, other, 1, 3)
}

// numbered is an object of ten bytes.
func numbered(i int) []byte { return []byte("object" + strconv.Itoa(1000+i)) }

// TestP2SeveralFillAStore: of calls that are done one behind the other just as many find room as there is room for.
func TestP2SeveralFillAStore(t *testing.T) {
	for range 5 {
		s := silt.New(1000)
		var all sync.WaitGroup
		put := make([]int, 8)
		for w := range put {
			all.Go(func() {
				for i := range 100 {
					_, err := s.Put(numbered(w*100 + i))
					if err == nil {
						put[w]++
					} else if codeOf(err) != api.ErrFull {
						t.Error(err)
					}
				}
			})
		}
		all.Wait()
		sum := 0
		for _, n := range put {
			sum += n
		}
		if sum != 100 {
			t.Errorf("%d objects found room, want 100", sum)
		}
		wantCount(t, s, 100, 1000)
	}
}

// TestP2SeveralEmptyAStore: each object is there for one Remove alone.
func TestP2SeveralEmptyAStore(t *testing.T) {
	s := silt.New(math.MaxInt)
	for i := range 500 {
		mustPut(t, s, numbered(i))
	}
	var all sync.WaitGroup
	gone := make([]int, 8)
	for w := range gone {
		all.Go(func() {
			for i := range 500 {
				if s.Remove(sha256.Sum256(numbered(i))) {
					gone[w]++
				}
			}
		})
	}
	all.Wait()
	sum := 0
	for _, n := range gone {
		sum += n
	}
	if sum != 500 {
		t.Errorf("%d objects were there for a Remove, want 500", sum)
	}
	wantCount(t, s, 0, 0)
}

// TestP2SeveralCalls: whatever the others do, an answer is that of some store between two calls.
func TestP2SeveralCalls(t *testing.T) {
	s := silt.New(math.MaxInt)
	var all sync.WaitGroup
	for w := range 8 {
		all.Go(func() {
			own, shared := numbered(900+w), numbered(999)
			d := sha256.Sum256(own)
			for i := range 400 {
				object := numbered((i*7 + w*50) % 200)
				key := sha256.Sum256(object)
				_, err := s.Put(object)
				got, lost := s.Get(key)
				s.Spoil(key, i%10, byte(i))
				s.Remove(key)
				if n, size := s.Count(); size != 10*n {
					t.Errorf("Count = %d, %d: not of one moment", n, size)
					return
				}
				if err != nil || lost == nil && !bytes.Equal(got, object) || lost != nil && len(got) > 0 {
					t.Errorf("Put: %v; Get: %q, %v", err, got, lost)
					return
				}
				// Nobody else calls for these two but to put the same.
				s.Put(shared)
				s.Put(own)
				mine, a := s.Get(d)
				ours, b := s.Get(sha256.Sum256(shared))
				if a != nil || b != nil || !slices.Equal(mine, own) || !slices.Equal(ours, shared) {
					t.Errorf("Get: %q, %v and %q, %v", mine, a, ours, b)
					return
				}
			}
		})
	}
	all.Wait()
	for i := range 200 {
		s.Remove(sha256.Sum256(numbered(i)))
	}
	wantCount(t, s, 9, 90)
}

// TestP2SeveralLook: short calls, many of them, while others change the store.
func TestP2SeveralLook(t *testing.T) {
	s := silt.New(math.MaxInt)
	var writers, lookers sync.WaitGroup
	done := make(chan bool)
	for w := range 2 {
		writers.Go(func() {
			for i := range 10000 {
				object := numbered(w*50 + i%50)
				s.Put(object)
				s.Remove(sha256.Sum256(object))
			}
		})
	}
	until := func(look func(i int) bool) {
		for i := 0; look(i); i++ {
			select {
			case <-done:
				return
			default:
			}
		}
	}
	keys := make([][32]byte, 100)
	for i := range keys {
		keys[i] = sha256.Sum256(numbered(i))
	}
	lookers.Go(func() {
		until(func(i int) bool {
			n, size := s.Count()
			if size != 10*n || n > 2 {
				t.Errorf("Count = %d, %d: not of one moment", n, size)
				return false
			}
			return true
		})
	})
	lookers.Go(func() {
		until(func(i int) bool {
			s.Spoil(keys[i%100], 0, 'o')
			return true
		})
	})
	writers.Wait()
	close(done)
	lookers.Wait()
	wantCount(t, s, 0, 0)
}
