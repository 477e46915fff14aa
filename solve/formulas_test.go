package solve_test

import (
	"math/rand/v2"
	"slices"

	"weephole/api"
)

// formula returns a formula of n variables.
func formula(n int, clauses ...[]int) api.Formula {
	return api.Formula{Vars: n, Clauses: clauses}
}

// with returns a formula with more clauses.
func with(f api.Formula, clauses ...[]int) api.Formula {
	return formula(f.Vars, slices.Concat(f.Clauses, clauses)...)
}

// lists returns all lists of at most size of the elements.
func lists[T any](elements []T, size int) [][]T {
	all := [][]T{nil}
	for from := 0; size > 0; size-- {
		to := len(all)
		for _, l := range all[from:to] {
			for _, x := range elements {
				all = append(all, append(slices.Clone(l), x))
			}
		}
		from = to
	}
	return all
}

// source gives random numbers, the same ones in each run.
func source(seed uint64) *rand.Rand {
	return rand.New(rand.NewPCG(7, seed))
}

// signed returns a number or its negative.
func signed(r *rand.Rand, x int) int {
	if r.IntN(2) == 0 {
		return -x
	}
	return x
}

// literals returns size literals of n variables, repeated ones and opposite ones among them.
func literals(r *rand.Rand, n, size int) []int {
	c := make([]int, size)
	for i := range c {
		c[i] = signed(r, 1+r.IntN(n))
	}
	return c
}

// someFormula returns a formula of up to 10 variables with clauses of any length up to 4, few of them empty.
func someFormula(r *rand.Rand) api.Formula {
	f := formula(1 + r.IntN(10))
	for range r.IntN(5 * f.Vars) {
		size := r.IntN(5)
		if size > 0 || r.IntN(20) == 0 {
			f.Clauses = append(f.Clauses, literals(r, f.Vars, size))
		}
	}
	return f
}

// threes returns a formula with m clauses of three different variables of n.
func threes(r *rand.Rand, n, m int) api.Formula {
	f := formula(n)
	for range m {
		var c []int
		for _, v := range r.Perm(n)[:3] {
			c = append(c, signed(r, v+1))
		}
		f.Clauses = append(f.Clauses, c)
	}
	return f
}

// someFormulas returns formulas with and without models, of which all models can be tried.
func someFormulas() []api.Formula {
	r := source(1)
	var all []api.Formula
	for range 3000 {
		all = append(all, someFormula(r))
	}
	for range 300 {
		n := 8 + r.IntN(5)
		all = append(all, threes(r, n, 5*n-r.IntN(n)))
	}
	return all
}

// builder collects clauses.
type builder struct {
	api.Formula
}

// variable returns a new variable.
func (b *builder) variable() int {
	b.Vars++
	return b.Vars
}

// variables returns n new variables.
func (b *builder) variables(n int) []int {
	vs := make([]int, n)
	for i := range vs {
		vs[i] = b.variable()
	}
	return vs
}

// add adds a clause.
func (b *builder) add(c ...int) {
	b.Clauses = append(b.Clauses, c)
}

// and returns a variable that is true if two literals hold.
func (b *builder) and(x, y int) int {
	z := b.variable()
	b.add(-z, x)
	b.add(-z, y)
	b.add(z, -x, -y)
	return z
}

// xor returns a variable that is true if one of two literals holds.
func (b *builder) xor(x, y int) int {
	z := b.variable()
	b.add(-z, x, y)
	b.add(-z, -x, -y)
	b.add(z, -x, y)
	b.add(z, x, -y)
	return z
}

// sum returns the lowest bits of a sum.
func (b *builder) sum(x, y []int) []int {
	carry := b.variable()
	b.add(-carry)
	s := make([]int, len(x))
	for i := range x {
		half := b.xor(x[i], y[i])
		s[i] = b.xor(half, carry)
		carry = -b.and(-b.and(x[i], y[i]), -b.and(half, carry))
	}
	return s
}

// product returns the lowest bits of a product.
func (b *builder) product(x, y []int) []int {
	none := b.variable()
	b.add(-none)
	p := slices.Repeat([]int{none}, len(x))
	for i := range y {
		row := slices.Repeat([]int{none}, len(x))
		for j := i; j < len(x); j++ {
			row[j] = b.and(x[j-i], y[i])
		}
		p = b.sum(p, row)
	}
	return p
}

// differ says that words differ.
func (b *builder) differ(x, y []int) {
	var c []int
	for i := range x {
		c = append(c, b.xor(x[i], y[i]))
	}
	b.add(c...)
}

// equal says that a word is a number.
func (b *builder) equal(x []int, number int) {
	for i, l := range x {
		if number>>i&1 == 0 {
			l = -l
		}
		b.add(l)
	}
}

// pigeons says that each of p pigeons is in one of h holes, none of which has two.
func pigeons(p, h int) api.Formula {
	var b builder
	in := make([][]int, p)
	for i := range in {
		in[i] = b.variables(h)
		b.add(in[i]...)
		for j := range i {
			for k := range h {
				b.add(-in[i][k], -in[j][k])
			}
		}
	}
	return b.Formula
}

// cycle says that n things in a circle are of two kinds in turn.
func cycle(n int) api.Formula {
	f := formula(n)
	for v := 1; v <= n; v++ {
		next := v%n + 1
		f.Clauses = append(f.Clauses, []int{v, next}, []int{-v, -next})
	}
	return f
}

// parity says of n edges between nodes that each node has an even number of them, but one if it is odd.
func parity(r *rand.Rand, nodes int, odd bool) api.Formula {
	var b builder
	edges := make([][]int, nodes)
	for i := range nodes {
		// Each node has edges to the next one and to any other one, so that all of them hang together.
		for _, j := range []int{(i + 1) % nodes, r.IntN(nodes)} {
			if i != j {
				v := b.variable()
				edges[i] = append(edges[i], v)
				edges[j] = append(edges[j], v)
			}
		}
	}
	for i, vs := range edges {
		sum := b.variable()
		b.add(-sum)
		for _, v := range vs {
			sum = b.xor(sum, v)
		}
		if i > 0 || !odd {
			sum = -sum
		}
		b.add(sum)
	}
	return b.Formula
}

// commuted says that products of words of a width depend on the order.
func commuted(width int) api.Formula {
	var b builder
	x, y := b.variables(width), b.variables(width)
	b.differ(b.product(x, y), b.product(y, x))
	return b.Formula
}

// square says that the square of a word of a width is a number.
func square(width, number int) api.Formula {
	var b builder
	x := b.variables(width)
	b.equal(b.product(x, x), number)
	return b.Formula
}

// factors says that a number is the product of two words of a width, none of which is 0 or 1.
func factors(width, number int) api.Formula {
	var b builder
	x, y := b.variables(width), b.variables(width)
	b.add(x[1:]...)
	b.add(y[1:]...)
	none := b.variable()
	b.add(-none)
	high := slices.Repeat([]int{none}, width)
	b.equal(b.product(slices.Concat(x, high), slices.Concat(y, high)), number)
	return b.Formula
}

// queens says that n queens on a board of n rows do not attack each other.
func queens(n int) api.Formula {
	f := formula(n * n)
	for i := range n {
		var row, column []int
		for j := range n {
			row = append(row, i*n+j+1)
			column = append(column, j*n+i+1)
		}
		f.Clauses = append(f.Clauses, row, column)
	}
	for i := range n * n {
		for j := range i {
			row, column := i/n-j/n, i%n-j%n
			if row == 0 || column == 0 || row == column || row == -column {
				f.Clauses = append(f.Clauses, []int{-i - 1, -j - 1})
			}
		}
	}
	return f
}

// parts says the same of n groups of variables that have nothing in common, or only the first variable: one of each group must be true, which shows when others are decided.
func parts(n int, common bool) api.Formula {
	var b builder
	first := b.variable()
	for range n {
		x, y, z := b.variable(), b.variable(), b.variable()
		for _, c := range [][]int{{x, y, z}, {x, -y, z}, {x, y, -z}, {x, -y, -z}} {
			if common {
				c = append(c, first)
			}
			b.add(c...)
		}
		b.add(-x, y, z)
	}
	return b.Formula
}

// detours says of a variable that it is false, and that it is true, where both take n others to be false, and each group of these another one; and if closed that none of the n is true.
func detours(n, group int, closed bool) api.Formula {
	var b builder
	groups, ways, x := b.variables(n/group), b.variables(n), b.variable()
	for _, start := range []int{x, -x} {
		at := b.variable()
		b.add(-start, at)
		for _, way := range ways {
			next := b.variable()
			b.add(-at, way, next)
			at = next
		}
		b.add(-at, -start)
	}
	never := b.variable()
	for i, way := range ways {
		b.add(-way, groups[i%len(groups)])
		if closed {
			b.add(-way, never)
			b.add(-way, -never)
		}
	}
	return b.Formula
}

// halves says that one of 2 * n variables is true, by two clauses, and that this takes another one; and if closed that this one is false.
func halves(n int, closed bool) api.Formula {
	var b builder
	low, high := b.variables(n-1), b.variables(n-1)
	// It comes before one of each half, so that these follow from it.
	needed := b.variable()
	low, high = append(low, b.variable()), append(high, b.variable())
	either, never := b.variable(), b.variable()
	b.add(append(slices.Clone(low), either)...)
	b.add(append(slices.Clone(high), -either)...)
	for _, x := range slices.Concat(low, high) {
		b.add(-x, needed)
	}
	if closed {
		b.add(-needed, never)
		b.add(-needed, -never)
	}
	return b.Formula
}

// beside returns a formula that says what two formulas say of variables of their own.
func beside(f, g api.Formula) api.Formula {
	both := formula(f.Vars+g.Vars, f.Clauses...)
	for _, c := range g.Clauses {
		moved := make([]int, len(c))
		for i, x := range c {
			moved[i] = x + f.Vars
			if x < 0 {
				moved[i] = x - f.Vars
			}
		}
		both.Clauses = append(both.Clauses, moved)
	}
	return both
}
