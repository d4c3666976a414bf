package walk

import (
	"errors"
	"strconv"

	"silt/api"
)

// Place wraps what went wrong below a part of a list.
type Place struct {
	List [32]byte
	Part int // 0 is the first one
	err  error
}

// Error tells the way down. Of a fault the number alone is told, so it says ahead of it whether something was lost.
func (p *Place) Error() string {
	what := "wrong"
	if errors.Is(p.err, api.Lost) {
		what = "lost"
	}
	return what + " below part " + strconv.Itoa(p.Part) + " of list " + begin(p.List) + ": " + p.err.Error()
}

// Unwrap tells what went wrong below.
func (p *Place) Unwrap() error { return p.err }

// begin is enough of a digest to know it by.
func begin(d [32]byte) string {
	const digits = "0123456789abcdef"
	var out []byte
	for _, b := range d[:4] {
		out = append(out, digits[b>>4], digits[b&15])
	}
	return string(out)
}
