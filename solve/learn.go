package solve

// What was found out about a variable.
const (
	unseen    uint8 = iota
	blamed          // the conflict depends on its value
	following       // its value follows from those of blamed variables
	lasting         // its value was not found to follow from them
)

// maxDepth is how many reasons redundant goes back.
const maxDepth = 500

// analysis is what was found out about a conflict.
type analysis struct {
	marks  []uint8   // by variable
	marked []int     // the variables that are not unseen
	stamps []int     // by level: the last round of stamping in which it was stamped
	round  int       // of stamping
	clause []literal // the one that says what was found out; its memory is used again
}

// newAnalysis returns an analysis for n variables.
func newAnalysis(n int) analysis {
	return analysis{marks: make([]uint8, n+1), stamps: make([]int, n+1)}
}

// mark notes what was found out about a variable of which nothing was so far.
func (a *analysis) mark(v int, as uint8) {
	if a.marks[v] == unseen {
		a.marks[v] = as
		a.marked = append(a.marked, v)
	}
}

// clear forgets what was found out about variables.
func (a *analysis) clear() {
	for _, v := range a.marked {
		a.marks[v] = unseen
	}
	a.marked = a.marked[:0]
}

// react learns from a clause that is false, and takes back what made it so; false: there is no model.
func (s *search) react(conflict int32) bool {
	s.back(s.highest(conflict))
	if s.level() == 0 {
		return false
	}
	s.conflicts++
	s.explain(conflict)
	if len(s.analysis.clause) > s.longest {
		s.explainByDecisions(conflict)
	}
	switch n := len(s.analysis.clause); {
	case n == 0:
		return false
	case n > s.longest:
		// A proof may not contain it, nor then what would be learned with its help: nothing is learned.
		return s.turn()
	}
	s.learn()
	return true
}

// learn adds the clause of the analysis, which is false, and whose first literal is alone on the last of their levels. It takes back levels until this literal follows.
func (s *search) learn() {
	c := s.analysis.clause
	s.back(s.levelOf(c[0]))
	s.proof.add(c)
	glue := s.stamp()
	to := 0
	for i := 1; i < len(c); i++ {
		if l := s.levelOf(c[i]); l > to {
			to = l
			// So the second one, which is watched, is the last of them to become open again.
			c[1], c[i] = c[i], c[1]
		}
	}
	// The literal follows on later levels, too, and it may take too long to decide all of them again.
	if s.level()-to > s.far {
		to = s.level() - 1
	}
	s.back(to)
	if len(c) == 1 {
		s.know(c[0])
	} else {
		s.assign(c[0], s.base.add(c, glue, s.conflicts))
	}
}

// highest returns the last level of the literals of a clause.
func (s *search) highest(n int32) int {
	l := 0
	for _, x := range s.base.of(n) {
		l = max(l, s.levelOf(x))
	}
	return l
}

// explain makes the clause of the analysis say why a clause is false. Its first literal is of the last level, and the nearest one to the conflict without others of this level beside it.
func (s *search) explain(conflict int32) {
	a := &s.analysis
	defer a.clear()
	at := len(s.trail)
	for pending := s.blame(conflict); pending > 0; {
		at--
		v := s.trail[at].variable()
		if a.marks[v] == unseen {
			continue
		}
		pending--
		if pending > 0 {
			pending += s.blame(s.origins[v].reason)
		}
	}
	a.clause = append(a.clause[:0], s.trail[at].negative())
	for _, v := range a.marked {
		s.bump(v)
		if x := s.falseLiteral(v); s.levelOf(x) < s.level() {
			a.clause = append(a.clause, x)
		}
	}
	s.shorten()
}

// explainByDecisions makes the clause of the analysis say which decisions made a clause false, the last one first.
func (s *search) explainByDecisions(conflict int32) {
	a := &s.analysis
	defer a.clear()
	a.clause = a.clause[:0]
	s.blame(conflict)
	for at := len(s.trail) - 1; at >= s.levels[0].start; at-- {
		x := s.trail[at]
		if a.marks[x.variable()] == unseen {
			continue
		}
		if r := s.origins[x.variable()].reason; r != none {
			s.blame(r)
		} else {
			a.clause = append(a.clause, x.negative())
		}
	}
}

// blame marks the variables of a clause, but those that have their values without decisions, and returns how many of the last level had no mark.
func (s *search) blame(n int32) int {
	s.base.clauses[n].used = s.conflicts
	count := 0
	for _, x := range s.base.of(n) {
		l := s.levelOf(x)
		if l == s.level() && s.analysis.marks[x.variable()] == unseen {
			count++
		}
		if l > 0 {
			s.analysis.mark(x.variable(), blamed)
		}
	}
	return count
}

// stamp stamps the levels of the clause of the analysis, and returns how many there are.
func (s *search) stamp() int {
	a := &s.analysis
	a.round++
	n := 0
	for _, x := range a.clause {
		if l := s.levelOf(x); a.stamps[l] != a.round {
			a.stamps[l] = a.round
			n++
		}
	}
	return n
}

// shorten drops the literals of the clause of the analysis that are false because others of it are.
func (s *search) shorten() {
	s.stamp()
	c := s.analysis.clause
	kept := c[:1]
	for _, x := range c[1:] {
		if !s.redundant(x.variable(), maxDepth) {
			kept = append(kept, x)
		}
	}
	s.analysis.clause = kept
}

// redundant reports whether the value of a variable follows from those of other variables that are blamed.
func (s *search) redundant(v, depth int) bool {
	a := &s.analysis
	o := s.origins[v]
	// Nothing follows on a level of which no variable is in the clause.
	if o.reason == none || depth == 0 || a.stamps[o.level] != a.round {
		return false
	}
	for _, x := range s.base.of(o.reason) {
		w := x.variable()
		if w == v || s.levelOf(x) == 0 || a.marks[w] == blamed || a.marks[w] == following {
			continue
		}
		if a.marks[w] == lasting || !s.redundant(w, depth-1) {
			a.mark(v, lasting)
			return false
		}
	}
	a.mark(v, following)
	return true
}
