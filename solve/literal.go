package solve

// literal is a literal as an index: 2v for the variable v, and 2v+1 for its negative.
type literal int32

// positive returns the literal of a variable that holds if the variable is true.
func positive(v int) literal {
	return literal(2 * v)
}

// literalOf returns the literal with a number.
func literalOf(x int) literal {
	if x < 0 {
		return positive(-x).negative()
	}
	return positive(x)
}

// negative returns the literal that holds if a literal does not.
func (x literal) negative() literal {
	return x ^ 1
}

// variable returns the variable of a literal.
func (x literal) variable() int {
	return int(x / 2)
}

// number returns the number of a literal.
func (x literal) number() int {
	if x == positive(x.variable()) {
		return x.variable()
	}
	return -x.variable()
}
