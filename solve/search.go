package solve

import (
	"weephole/api"
	"weephole/order"
)

// The values of literals.
const (
	isFalse int8 = -1
	open    int8 = 0 // not known
	holds   int8 = 1
)

const (
	conflictWeight = 1 << 16 // what a conflict counts in activities
	bumpShare      = 16      // of the distance that is left a bump takes 1 / bumpShare
	maxBump        = 1 << 40 // the heap takes no more
)

// settings are the numbers on which it depends how the solver looks for a model.
type settings struct {
	longest int // how many literals a clause may have that is learned
	far     int // how many levels may be taken back at once because of a learned clause
	unit    int // how many conflicts there are at least between restarts
	room    int // how many learned clauses are not too many
}

// usual returns the settings of Solve.
func usual() settings {
	return settings{longest: api.MaxClause, far: 1000, unit: 100, room: 4000}
}

// search is the state of the solver.
type search struct {
	settings
	*order.Heap           // the variables that may be decided; all that are open are among them
	scores      []int     // by variable: its activity in the heap
	values      []int8    // by literal
	phases      []literal // by variable: the literal of it that held last
	origins     []origin  // by variable: how it got its value
	trail       []literal // the literals that hold, in the order in which they came to
	looked      int       // how many of them have been looked at: what follows from these is known
	levels      []level   // from level 1 on; on level 0 is what follows without decisions
	base        base
	analysis    analysis
	proof       record // of what was learned
	conflicts   int    // so far
	restarts    int    // so far
	restartAt   int    // how many conflicts lead to the next one
}

// level is a level of decisions: a decision, and what was found to follow from it and those before it.
type level struct {
	start    int // from where on the trail belongs to it
	decision literal
	turned   bool // the negative of the decision has been tried before
}

// origin is how a variable got its value.
type origin struct {
	level  int32 // the last one when it got it, or 0 if it would have it on each
	reason int32 // the clause from which it follows, none for a decision; not asked for on level 0
}

// newSearch returns a search for n variables and no clauses.
func newSearch(n int, by settings) (*search, api.Errno) {
	h, e := order.New(n)
	if e != api.OK {
		return nil, e
	}
	s := &search{
		settings:  by,
		Heap:      h,
		scores:    make([]int, n+1),
		values:    make([]int8, 2*n+2),
		phases:    make([]literal, n+1),
		origins:   make([]origin, n+1),
		base:      base{watches: make([][]watch, 2*n+2)},
		analysis:  newAnalysis(n),
		restartAt: by.unit,
	}
	for v := range s.phases {
		s.phases[v] = positive(v).negative()
	}
	return s, api.OK
}

// level returns the number of the last level.
func (s *search) level() int {
	return len(s.levels)
}

// levelOf returns the level on which the variable of a literal got its value.
func (s *search) levelOf(x literal) int {
	return int(s.origins[x.variable()].level)
}

// falseLiteral returns the literal of a variable that is false.
func (s *search) falseLiteral(v int) literal {
	x := positive(v)
	if s.values[x] == holds {
		return x.negative()
	}
	return x
}

// model returns the values of the variables, when none is open.
func (s *search) model() []bool {
	m := make([]bool, len(s.phases)-1)
	for i := range m {
		m[i] = s.values[positive(i+1)] == holds
	}
	return m
}

// assign makes a literal hold for a reason; false: it is false.
func (s *search) assign(x literal, reason int32) bool {
	if s.values[x] != open {
		return s.values[x] == holds
	}
	s.values[x], s.values[x.negative()] = holds, isFalse
	s.origins[x.variable()] = origin{int32(s.level()), reason}
	s.trail = append(s.trail, x)
	return true
}

// decide begins a level with the variable that comes next; false: none is open.
func (s *search) decide() bool {
	for {
		v, e := s.Pop()
		if e != api.OK {
			return false
		}
		if x := s.phases[v]; s.values[x] == open {
			s.begin(x, false)
			return true
		}
	}
}

// know makes an open literal hold on each level.
func (s *search) know(x literal) {
	s.assign(x, none)
	s.origins[x.variable()].level = 0
}

// begin begins a level with a decision. What has not been looked at yet belongs to it, too: if the level is taken back, it is looked at again.
func (s *search) begin(x literal, turned bool) {
	s.levels = append(s.levels, level{s.looked, x, turned})
	s.assign(x, none)
}

// turn tries the negative of the last decision for which it has not been tried; false: there is none. As only conflicts of very many decisions lead to this, there would have to be more of them than there can be before none is left.
func (s *search) turn() bool {
	for n := s.level() - 1; n >= 0; n-- {
		if l := s.levels[n]; !l.turned {
			s.back(n)
			s.begin(l.decision.negative(), true)
			return true
		}
	}
	return false
}

// back takes back all levels after level n, but not what holds on each level.
func (s *search) back(n int) {
	if n == s.level() {
		return
	}
	start := s.levels[n].start
	kept := s.trail[:start]
	for _, x := range s.trail[start:] {
		if s.levelOf(x) == 0 {
			kept = append(kept, x)
			continue
		}
		s.phases[x.variable()] = x
		s.values[x], s.values[x.negative()] = open, open
		s.Push(x.variable())
	}
	s.trail = kept
	// What followed from those that are kept is looked for again.
	s.looked = start
	s.levels = s.levels[:n]
}

// bump brings the activity of a variable nearer to what all conflicts count together. So recent conflicts count most, and no activity is too great for the heap.
func (s *search) bump(v int) {
	by := min((s.conflicts*conflictWeight-s.scores[v])/bumpShare, maxBump)
	if s.Bump(v, by) == api.OK {
		s.scores[v] += by
	}
}
