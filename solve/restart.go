package solve

import (
	"cmp"
	"math/bits"
	"slices"
)

const (
	levelsShare = 64  // how many levels there are for one more conflict before the next restart
	moreRoom    = 500 // how many more learned clauses there may be each time, so that in the end enough are kept
	goodGlue    = 2   // clauses up to this glue are kept
)

// restart takes back all levels, as other variables may come first now.
func (s *search) restart() {
	s.restarts++
	// It takes long to decide many levels again.
	s.restartAt = s.conflicts + s.unit*luby(s.restarts+1) + s.level()/levelsShare
	s.back(0)
}

// luby returns the element i, from 1 on, of 1 1 2 1 1 2 4 1 1 2 1 1 2 4 8 and so on.
func luby(i int) int {
	for {
		half := 1 << (bits.Len(uint(i)) - 1)
		if i == 2*half-1 {
			return half
		}
		i -= half - 1
	}
}

// forget removes learned clauses that are of little use, and clauses and literals that no longer matter. There must be no levels, and all that follows must be known.
func (s *search) forget() {
	s.room += moreRoom
	old, gone := s.base, s.base.worse()
	s.base = base{watches: old.watches}
	for x := range s.base.watches {
		s.base.watches[x] = s.base.watches[x][:0]
	}
	for n, c := range old.clauses {
		if gone[n] {
			continue
		}
		if left := s.left(old.of(int32(n))); len(left) > 0 {
			s.base.add(left, int(c.glue), c.used)
		}
	}
}

// worse returns, by clause, which ones are of less use than as many others.
func (b *base) worse() []bool {
	var some []int
	for n, c := range b.clauses {
		if c.glue > goodGlue {
			some = append(some, n)
		}
	}
	slices.SortFunc(some, func(m, n int) int {
		c, d := &b.clauses[m], &b.clauses[n]
		return cmp.Or(cmp.Compare(c.glue, d.glue), cmp.Compare(d.used, c.used), cmp.Compare(m, n))
	})
	gone := make([]bool, len(b.clauses))
	for _, n := range some[len(some)/2:] {
		gone[n] = true
	}
	return gone
}

// left returns the literals of a clause that are open, in its memory; none if the clause holds. Otherwise there are two at least, as one alone would have followed.
func (s *search) left(c []literal) []literal {
	kept := c[:0]
	for _, x := range c {
		switch s.values[x] {
		case holds:
			return nil
		case open:
			kept = append(kept, x)
		}
	}
	return kept
}
