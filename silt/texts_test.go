package silt_test

import (
	"crypto/sha256"
	"encoding/hex"
	"math/rand"
	"slices"
	"strings"
	"testing"

	"silt/silt"
)

func TestP3DigestOfPublishedTexts(t *testing.T) {
	for text, want := range map[string]string{
		"":    "e3b0c44298fc1c149afbf4c8996fb92427ae41e4649b934ca495991b7852b855",
		"abc": "ba7816bf8f01cfea414140de5dae2223b00361a396177a9cb410ff61f20015ad",
		"abcdbcdecdefdefgefghfghighijhijkijkljklmklmnlmnomnopnopq":                                                         "248d6a61d20638b8e5c026930c3e6039a33ce45964ff2167f6ecedd419db06c1",
		"abcdefghbcdefghicdefghijdefghijkefghijklfghijklmghijklmnhijklmnoijklmnopjklmnopqklmnopqrlmnopqrsmnopqrstnopqrstu": "cf5b16a778af8380036ce59e7b0492370b249b11e8f07a51afac45037afee9d1",
		strings.Repeat("a", 1000000): "cdc76e5c9914fb9281a1c7e284d73e67f1809a48a497200e046d39ccc7112cd0",
	} {
		d := silt.Digest([]byte(text))
		if hex.EncodeToString(d[:]) != want {
			t.Errorf("Digest of %.20q (%d bytes) = %x, want %s", text, len(text), d, want)
		}
	}
}

func TestP3DigestOfAllLengths(t *testing.T) {
	r := rand.New(rand.NewSource(3))
	lengths := []int{511, 512, 513, 65535, 65536, 65537, 1 << 21}
	for n := range 300 {
		lengths = append(lengths, n)
	}
	for _, n := range lengths {
		text := noise(r, n, 256)
		if d := silt.Digest(text); d != sha256.Sum256(text) {
			t.Errorf("Digest of %d bytes = %x, want %x", n, d, sha256.Sum256(text))
		}
	}
	if silt.Digest(nil) != sha256.Sum256(nil) {
		t.Error("Digest of nil is not that of the empty text")
	}
}

// someTexts are texts of many lengths: noise, and such as seldom or always have a cut.
func someTexts() [][]byte {
	r := rand.New(rand.NewSource(4))
	var out [][]byte
	for _, n := range []int{0, 1, 15, 16, 17, 31, 32, 33, 63, 64, 65, 255, 256, 257, 511, 512, 513, 4000} {
		for _, letters := range []int{1, 2, 16, 256} {
			out = append(out, noise(r, n, letters))
		}
	}
	for b := range 256 {
		out = append(out, slices.Repeat([]byte{byte(b)}, 600))
	}
	return out
}

func TestP3Cuts(t *testing.T) {
	for _, text := range someTexts() {
		if got, want := silt.Cuts(text), cutsOf(text); !slices.Equal(got, want) {
			t.Fatalf("Cuts of %d bytes (%.8x..) = %v, want %v", len(text), text, got, want)
		}
	}
}

func TestP3CutsAtTheEdges(t *testing.T) {
	if l := silt.Cuts(nil); len(l) != 0 {
		t.Errorf("Cuts of nil: %v", l)
	}
	if l := silt.Cuts([]byte{}); len(l) != 0 {
		t.Errorf("Cuts of the empty text: %v", l)
	}
	for b := range 256 {
		if l := silt.Cuts(slices.Repeat([]byte{byte(b)}, 31)); !slices.Equal(l, []int{31}) {
			t.Errorf("Cuts of 31 bytes %d: %v", b, l)
		}
	}
	// The roll of noughts ends in ones: they are cut as soon as may be.
	if l := silt.Cuts(make([]byte, 100)); !slices.Equal(l, []int{32, 32, 32, 4}) {
		t.Errorf("Cuts of 100 noughts: %v", l)
	}
	never := neverCut(t)
	for n, want := range map[int][]int{255: {255}, 256: {256}, 257: {256, 1}, 512: {256, 256}, 513: {256, 256, 1}} {
		if l := silt.Cuts(never[:n]); !slices.Equal(l, want) {
			t.Errorf("Cuts of %d bytes without a cut of their own: %v, want %v", n, l, want)
		}
	}
}

// neverCut is a text whose rolls end no chunk.
func neverCut(t *testing.T) []byte {
	t.Helper()
	for b := range 256 {
		text := slices.Repeat([]byte{byte(b)}, 600)
		if rollOf(text[:16])%64 != 63 {
			return text
		}
	}
	t.Fatal("there is no such text")
	return nil
}

// endingAt is a text of n bytes with just one roll that ends a chunk, that of its last 16.
func endingAt(t *testing.T, n int) []byte {
	t.Helper()
	r := rand.New(rand.NewSource(int64(n)))
	for range 1 << 20 {
		text := noise(r, n, 256)
		first := 16
		for first < n && rollOf(text[first-16:first])%64 != 63 {
			first++
		}
		if first == n && rollOf(text[n-16:])%64 == 63 {
			return text
		}
	}
	t.Fatalf("no text of %d bytes was found", n)
	return nil
}

func TestP3RollEndsAChunkFromMinChunkOn(t *testing.T) {
	for n, want := range map[int][]int{30: nil, 31: nil, 32: {32}, 33: {33}, 48: {48}, 100: {100}} {
		text := endingAt(t, n)
		c := silt.NewCutter()
		if l := c.Write(text); !slices.Equal(l, want) {
			t.Errorf("Write of %d bytes with a roll that ends in ones: %v, want %v", n, l, want)
		}
		if l := silt.Cuts(text); !slices.Equal(l, []int{n}) {
			t.Errorf("Cuts of %d bytes with such a roll at the end: %v", n, l)
		}
	}
}

func TestP3CutterIsGivenPieces(t *testing.T) {
	r := rand.New(rand.NewSource(5))
	c := silt.NewCutter()
	for _, text := range someTexts() {
		over, rest := chunksOf(text)
		for _, most := range []int{1, 2, 40, 300, 5000} {
			var got []int
			for left := text; len(left) > 0; {
				n := min(r.Intn(most)+1, len(left))
				got = append(got, c.Write(left[:n])...)
				left = left[n:]
				if l := c.Write(nil); len(l) != 0 {
					t.Fatalf("Write of nothing: %v", l)
				}
			}
			if !slices.Equal(got, over) {
				t.Fatalf("a cutter of %d bytes, at most %d at a time: %v, want %v", len(text), most, got, over)
			}
			last := c.Close()
			if rest == 0 && len(last) != 0 || rest > 0 && !slices.Equal(last, []int{rest}) {
				t.Fatalf("Close behind %d bytes: %v, want the rest, %d", len(text), last, rest)
			}
		}
	}
}

func TestP3CutterTellsAChunkWithItsLastByte(t *testing.T) {
	r := rand.New(rand.NewSource(6))
	for _, text := range [][]byte{noise(r, 3000, 256), make([]byte, 200), neverCut(t)} {
		over, _ := chunksOf(text)
		c := silt.NewCutter()
		open := 0
		for i := range text {
			open++
			var want []int
			if len(over) > 0 && open == over[0] {
				want, over, open = over[:1], over[1:], 0
			}
			if l := c.Write(text[i : i+1]); !slices.Equal(l, want) {
				t.Fatalf("Write of byte %d: %v, want %v", i, l, want)
			}
		}
	}
}

func TestP3CloseBeginsANewText(t *testing.T) {
	c := silt.NewCutter()
	for range 3 {
		if l := c.Close(); len(l) != 0 {
			t.Errorf("Close of nothing: %v", l)
		}
	}
	never := neverCut(t)
	for n := 1; n < 256; n += 6 {
		c.Write(never[:n])
		if l := c.Close(); !slices.Equal(l, []int{n}) {
			t.Fatalf("Close behind %d bytes: %v", n, l)
		}
		if l := c.Close(); len(l) != 0 {
			t.Fatalf("Close again: %v", l)
		}
		if l := c.Write(make([]byte, 32)); !slices.Equal(l, []int{32}) {
			t.Fatalf("a new text behind %d bytes: %v", n, l)
		}
	}
}

func TestP3CuttersAreApart(t *testing.T) {
	r := rand.New(rand.NewSource(7))
	x, y := noise(r, 3000, 256), noise(r, 3000, 3)
	c, d := silt.NewCutter(), silt.NewCutter()
	var a, b []int
	for i := range x {
		a = append(a, c.Write(x[i:i+1])...)
		b = append(b, d.Write(y[i:i+1])...)
	}
	a, b = append(a, c.Close()...), append(b, d.Close()...)
	if !slices.Equal(a, cutsOf(x)) || !slices.Equal(b, cutsOf(y)) {
		t.Errorf("two cutters side by side: %v and %v, want %v and %v", a, b, cutsOf(x), cutsOf(y))
	}
}
