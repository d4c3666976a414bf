package walk

import "silt/pieces"

// Needs tells the digests of what stands below some roots: of the lists, and of all that these name. Pieces are not got.
func Needs(from Source, roots [][32]byte) (map[[32]byte]struct{}, error) {
	g := gatherer{from: from, met: map[[32]byte]pieces.List{}}
	for _, root := range roots {
		top, err := getTop(from, root)
		if err != nil {
			return nil, err
		}
		if err := g.below(root, top); err != nil {
			return nil, err
		}
	}
	return g.named(), nil
}

// gatherer goes down to the lists of level 1.
type gatherer struct {
	from Source
	met  map[[32]byte]pieces.List
}

// below goes through the parts of the list under d. Where it was met before, they were all found right then: texts share lists, and one may have a list many times.
func (g *gatherer) below(d [32]byte, l pieces.List) error {
	if _, met := g.met[d]; met {
		return nil
	}
	g.met[d] = l
	if l.Level == 1 {
		return nil
	}
	for i, p := range l.Parts {
		if err := g.part(l.Level, p); err != nil {
			return &Place{List: d, Part: i, err: err}
		}
	}
	return nil
}

func (g *gatherer) part(level int, p pieces.Part) error {
	l, err := getBelow(g.from, level, p)
	if err != nil {
		return err
	}
	return g.below(p.Digest, l)
}

func (g *gatherer) named() map[[32]byte]struct{} {
	all := map[[32]byte]struct{}{}
	for d, l := range g.met {
		all[d] = struct{}{}
		for _, p := range l.Parts {
			all[p.Digest] = struct{}{}
		}
	}
	return all
}
