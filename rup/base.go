package rup

// base is the clauses so far: those of the formula, and those of the proof that were implied. It lasts from clause to clause of the proof, as a proof may be long: what follows without assumptions stays known, and what follows from the negatives of a clause is forgotten after it.
type base struct {
	known   []int   // by variable: the literal of it that is known to hold, or 0
	trail   []int   // the literals that are known, in the order in which they became known
	looked  int     // how many of them have been looked at
	watches [][]int // by place of a literal: the indices of the clauses that watch it
	clauses []clause
	fails   bool // unit propagation fails without assumptions; nothing else counts then
}

// clause is a clause with at least two different literals. It needs to be looked at only when one of the two that it watches becomes false: before that, it cannot have one literal left.
type clause struct {
	watched  [2]int
	literals []int
	next     int // where the search for a literal to watch goes on
}

// newBase returns a base of n variables without clauses.
func newBase(n int) *base {
	return &base{known: make([]int, n+1), watches: make([][]int, 2*n+2)}
}

// refuses reports whether the clauses so far do not imply a clause. One that they imply becomes one of them.
func (b *base) refuses(c []int) bool {
	if !b.implies(c) {
		return true
	}
	b.add(c)
	return false
}

// implies reports whether the clauses so far imply a clause.
func (b *base) implies(c []int) bool {
	if b.fails {
		return true
	}
	before := len(b.trail)
	fails := !b.learnAll(negatives(c)) || !b.run()
	b.forget(before)
	return fails
}

// add adds a clause, when nothing is assumed.
func (b *base) add(c []int) {
	if b.fails {
		return
	}
	x, y := b.left(c)
	switch {
	case x == 0:
		b.fails = true
	case y == 0:
		b.fails = !b.learn(x) || !b.run()
	default:
		n := len(b.clauses)
		b.clauses = append(b.clauses, clause{watched: [2]int{x, y}, literals: c})
		b.watch(n, x)
		b.watch(n, y)
	}
}

// left returns two different literals of a clause that are not known to be false, 0 for each that there is not.
func (b *base) left(c []int) (int, int) {
	first := 0
	for _, x := range c {
		if x == first || b.holds(-x) {
			continue
		}
		if first != 0 {
			return first, x
		}
		first = x
	}
	return first, 0
}

// watch notes that a clause watches a literal.
func (b *base) watch(n, x int) {
	b.watches[place(x)] = append(b.watches[place(x)], n)
}

// learnAll makes literals known; false: the negative of one is known.
func (b *base) learnAll(literals []int) bool {
	for _, x := range literals {
		if !b.learn(x) {
			return false
		}
	}
	return true
}

// learn makes a literal known; false: its negative is known.
func (b *base) learn(x int) bool {
	k := &b.known[variable(x)]
	if *k == 0 {
		*k = x
		b.trail = append(b.trail, x)
	}
	return *k == x
}

// holds reports whether a literal is known to hold.
func (b *base) holds(x int) bool {
	return b.known[variable(x)] == x
}

// forget takes back what became known after the first n literals.
func (b *base) forget(n int) {
	for _, x := range b.trail[n:] {
		b.known[variable(x)] = 0
	}
	b.trail = b.trail[:n]
	b.looked = n
}

// run looks at what became known, until nothing new does; false: a clause fails.
func (b *base) run() bool {
	for b.looked < len(b.trail) {
		x := b.trail[b.looked]
		b.looked++
		if !b.leave(-x) {
			return false
		}
	}
	return true
}

// leave makes the clauses that watch a literal that is false watch another one; from those that have one literal left it follows. False: a clause fails.
func (b *base) leave(x int) bool {
	at := place(x)
	for i := 0; i < len(b.watches[at]); {
		n := b.watches[at][i]
		if b.replace(n, x) {
			last := len(b.watches[at]) - 1
			b.watches[at][i] = b.watches[at][last]
			b.watches[at] = b.watches[at][:last]
			continue
		}
		// It still watches x: x and what follows are forgotten together.
		if !b.learn(b.clauses[n].other(x)) {
			return false
		}
		i++
	}
	return true
}

// replace makes a clause watch a literal in place of one that is false; false: there is none.
func (b *base) replace(n, x int) bool {
	c := &b.clauses[n]
	other := c.other(x)
	if b.holds(other) {
		return false
	}
	for range c.literals {
		y := c.literals[c.next]
		c.next = (c.next + 1) % len(c.literals)
		if y != other && !b.holds(-y) {
			c.watched = [2]int{other, y}
			b.watch(n, y)
			return true
		}
	}
	return false
}

// other returns the literal that a clause watches beside one.
func (c *clause) other(x int) int {
	if c.watched[0] == x {
		return c.watched[1]
	}
	return c.watched[0]
}

// place returns the index of a literal in a list of all of them.
func place(x int) int {
	if x < 0 {
		return -2*x + 1
	}
	return 2 * x
}

// variable returns the variable of a literal.
func variable(x int) int {
	return max(x, -x)
}
