package solve

import "weephole/lit"

// none is the number of no clause.
const none int32 = -1

// firstUnwatched is the place of the first literal of a clause that it does not watch.
const firstUnwatched = 2

// base is the clauses of at least two literals, those of the formula and those that were learned.
type base struct {
	clauses  []clause
	literals []literal // of all clauses
	watches  [][]watch // by literal: the clauses that watch it
	learned  int       // how many of the clauses were
}

// clause is a clause. It watches its first two literals: it needs to be looked at only when one of them becomes false, as before that it cannot have one literal left.
type clause struct {
	start int   // of its literals
	size  int32 // how many there are
	glue  int32 // how many levels they were of when it was learned; 0: it is one of the formula
	next  int32 // where the search for a literal to watch goes on, as it would take too long to begin anew each time
	used  int   // the last conflict in which it had a part
}

// watch is a clause that watches a literal, with another literal of it: the clause need not be looked at while this one holds.
type watch struct {
	clause int32
	other  literal
}

// add adds a clause.
func (b *base) add(c []literal, glue, used int) int32 {
	n := int32(len(b.clauses))
	b.clauses = append(b.clauses, clause{len(b.literals), int32(len(c)), int32(glue), firstUnwatched, used})
	b.literals = append(b.literals, c...)
	b.watches[c[0]] = append(b.watches[c[0]], watch{n, c[1]})
	b.watches[c[1]] = append(b.watches[c[1]], watch{n, c[0]})
	if glue > 0 {
		b.learned++
	}
	return n
}

// of returns the literals of a clause.
func (b *base) of(n int32) []literal {
	c := &b.clauses[n]
	return b.literals[c.start : c.start+int(c.size)]
}

// takeAll takes the clauses of a formula; false: some of them cannot hold together.
func (s *search) takeAll(clauses [][]int) bool {
	for _, c := range clauses {
		c, always := lit.Norm(c...)
		if !always && !s.take(c) {
			return false
		}
	}
	return true
}

// take takes a clause with each variable once, before anything is propagated; false: it cannot hold.
func (s *search) take(c []int) bool {
	switch len(c) {
	case 0:
		return false
	case 1:
		return s.assign(literalOf(c[0]), none)
	}
	literals := make([]literal, len(c))
	for i, x := range c {
		literals[i] = literalOf(x)
	}
	s.base.add(literals, 0, 0)
	return true
}

// propagate finds what follows from the literals that hold, and returns a clause that is false, or none.
func (s *search) propagate() int32 {
	for s.looked < len(s.trail) {
		x := s.trail[s.looked].negative()
		s.looked++
		if conflict := s.leave(x); conflict != none {
			return conflict
		}
	}
	return none
}

// leave makes the clauses that watch a literal that became false watch another one. Where there is none, the other literal that they watch follows. It returns a clause that is false, or none.
func (s *search) leave(x literal) int32 {
	all := s.base.watches[x]
	kept := all[:0]
	for i, w := range all {
		if s.values[w.other] == holds {
			kept = append(kept, w)
			continue
		}
		c := s.base.of(w.clause)
		if c[0] == x {
			c[0], c[1] = c[1], c[0]
		}
		w.other = c[0]
		if s.values[c[0]] != holds && s.replace(w, c) {
			continue
		}
		kept = append(kept, w)
		if !s.assign(c[0], w.clause) {
			s.base.watches[x] = append(kept, all[i+1:]...)
			return w.clause
		}
	}
	s.base.watches[x] = kept
	return none
}

// replace makes a clause watch a literal that is not false in place of its second one; false: there is none.
func (s *search) replace(w watch, c []literal) bool {
	next := int(s.base.clauses[w.clause].next)
	at := s.notFalse(c, next, len(c))
	if at == len(c) {
		at = s.notFalse(c, firstUnwatched, next)
		if at == next {
			return false
		}
	}
	s.base.clauses[w.clause].next = int32(at)
	c[1], c[at] = c[at], c[1]
	s.base.watches[c[1]] = append(s.base.watches[c[1]], w)
	return true
}

// notFalse returns the first place from one on, before an end, at which a literal is not false; the end: there is none.
func (s *search) notFalse(c []literal, at, end int) int {
	for at < end && s.values[c[at]] == isFalse {
		at++
	}
	return at
}
