// Package lit works with literals and clauses (layer 1, doc/01-lit.md).
package lit

import (
	"slices"

	"weephole/api"
)

// Check returns an error unless a clause is valid for n variables.
func Check(n int, c ...int) api.Errno {
	if n < 0 || n > api.MaxVars {
		return api.ErrRange
	}
	if len(c) > api.MaxClause {
		return api.ErrLong
	}
	for _, x := range c {
		if x == 0 || variable(x) > uint(n) {
			return api.ErrRange
		}
	}
	return api.OK
}

// Norm returns a clause with each literal once, in the order of variables; true: it always holds.
func Norm(c ...int) ([]int, bool) {
	s := sorted(c, Less)
	n := 0
	for _, x := range s {
		if x == 0 || n > 0 && x == s[n-1] {
			continue
		}
		// The order puts a literal right before its negative.
		if n > 0 && variable(x) == variable(s[n-1]) {
			return nil, true
		}
		s[n] = x
		n++
	}
	// No capacity is left, so that appending to the clause cannot bring back what was cut off.
	return s[:n:n], false
}

// Holds reports whether a clause holds.
func Holds(m []bool, c ...int) bool {
	for _, x := range c {
		v := variable(x)
		if v != 0 && v <= uint(len(m)) && m[v-1] == (x > 0) {
			return true
		}
	}
	return false
}

// Less reports whether a literal comes before another one.
func Less(a, b int) bool {
	v, w := variable(a), variable(b)
	return v < w || v == w && a > b
}

// variable returns the absolute value of a number. It has no sign, as that of the least number is greater than every int.
func variable(x int) uint {
	if x < 0 {
		return -uint(x)
	}
	return uint(x)
}

// sorted returns a copy of a list in the order in which less says what comes first.
func sorted[T any](list []T, less func(a, b T) bool) []T {
	s := slices.Clone(list)
	slices.SortFunc(s, func(a, b T) int {
		if less(a, b) {
			return -1
		}
		if less(b, a) {
			return 1
		}
		return 0
	})
	return s
}
