package cnf_test

import (
	"math"
	"slices"
	"testing"

	"weephole/api"
	"weephole/cnf"
	"weephole/lit"
)

// formula returns a formula of n variables.
func formula(n int, clauses ...[]int) api.Formula {
	return api.Formula{Vars: n, Clauses: clauses}
}

// example is the formula F of the chapter.
func example() api.Formula {
	return formula(3, []int{1, 2}, []int{-1, 3}, []int{-2, -3})
}

// lists returns all lists of at most size of the elements.
func lists[T any](elements []T, size int) [][]T {
	all := [][]T{nil}
	for from := 0; size > 0; size-- {
		to := len(all)
		for _, l := range all[from:to] {
			for _, x := range elements {
				all = append(all, append(slices.Clone(l), x))
			}
		}
		from = to
	}
	return all
}

// smallClauses returns all clauses of at most two literals of two variables.
func smallClauses() [][]int {
	return lists([]int{1, -1, 2, -2}, 2)
}

// models returns all models of n variables.
func models(n int) [][]bool {
	var all [][]bool
	for bits := range 1 << n {
		m := make([]bool, n)
		for i := range m {
			m[i] = bits>>i&1 == 1
		}
		all = append(all, m)
	}
	return all
}

// repeat returns a clause of n times the same number.
func repeat(x, n int) []int {
	return slices.Repeat([]int{x}, n)
}

// many returns n times the same clause.
func many(n int, c ...int) [][]int {
	return slices.Repeat([][]int{c}, n)
}

// first is what First of a valid formula and a model has to return.
func first(f api.Formula, m []bool) int {
	return slices.IndexFunc(f.Clauses, func(c []int) bool {
		return !slices.ContainsFunc(c, func(x int) bool {
			return x > 0 && m[x-1] || x < 0 && !m[-x-1]
		})
	})
}

// mustFirst returns the clause that First returns without an error.
func mustFirst(t *testing.T, f api.Formula, m []bool) int {
	t.Helper()
	i, e := cnf.First(f, m...)
	if e != api.OK {
		t.Fatalf("First(%v, %v): error %d", f, m, e)
	}
	return i
}

// deep returns a copy of a formula that is made without the package under test; nil and empty slices stay apart.
func deep(f api.Formula) api.Formula {
	clauses := slices.Clone(f.Clauses)
	for i, c := range clauses {
		clauses[i] = slices.Clone(c)
	}
	return api.Formula{Vars: f.Vars, Clauses: clauses}
}

// same reports whether two formulas are equal, without the package under test.
func same(a, b api.Formula) bool {
	if a.Vars != b.Vars || len(a.Clauses) != len(b.Clauses) {
		return false
	}
	for i, c := range a.Clauses {
		d := b.Clauses[i]
		if len(c) != len(d) {
			return false
		}
		for j := range c {
			if c[j] != d[j] {
				return false
			}
		}
	}
	return true
}

// P2.1

func TestCheckExamples(t *testing.T) {
	f := example()
	if e := cnf.Check(f); e != api.OK {
		t.Error("F:", e)
	}
	f.Vars = 2
	if e := cnf.Check(f); e != api.ErrRange {
		t.Error("F with 2 variables:", e)
	}
	f = example()
	f.Clauses = append(f.Clauses, []int{0})
	if e := cnf.Check(f); e != api.ErrRange {
		t.Error("F with the clause 0:", e)
	}
}

func TestCheckNumberOfVariables(t *testing.T) {
	for _, n := range []int{0, 1, 3, api.MaxVars - 1, api.MaxVars} {
		for _, f := range []api.Formula{formula(n), formula(n, nil), formula(n, []int{}, nil)} {
			if e := cnf.Check(f); e != api.OK {
				t.Errorf("Check(%v) = %d", f, e)
			}
		}
	}
	for _, n := range []int{math.MinInt, -api.MaxVars, -2, -1, api.MaxVars + 1, 1 << 32, math.MaxInt} {
		for _, f := range []api.Formula{formula(n), formula(n, nil), formula(n, []int{1}), formula(n, repeat(1, api.MaxClause+1))} {
			if e := cnf.Check(f); e != api.ErrRange {
				t.Errorf("Check of %d variables and %d clauses = %d", n, len(f.Clauses), e)
			}
		}
	}
}

func TestCheckNumberOfClauses(t *testing.T) {
	for n, want := range map[int]api.Errno{api.MaxClauses - 1: api.OK, api.MaxClauses: api.OK, api.MaxClauses + 1: api.ErrLong} {
		if e := cnf.Check(formula(1, many(n, -1)...)); e != want {
			t.Errorf("%d clauses: %d, want %d", n, e, want)
		}
		if e := cnf.Check(formula(0, many(n)...)); e != want {
			t.Errorf("%d empty clauses: %d, want %d", n, e, want)
		}
	}
}

func TestCheckClauses(t *testing.T) {
	for _, x := range []struct {
		c    []int
		want api.Errno
	}{
		{nil, api.OK},
		{[]int{}, api.OK},
		{[]int{3, -3, 3, 1}, api.OK},
		{repeat(-3, api.MaxClause), api.OK},
		{repeat(-3, api.MaxClause+1), api.ErrLong},
		{repeat(0, api.MaxClause+1), api.ErrLong},
		{append(repeat(3, api.MaxClause-1), -4), api.ErrRange},
		{[]int{0}, api.ErrRange},
		{[]int{4}, api.ErrRange},
		{[]int{-4}, api.ErrRange},
		{[]int{1, 2, 4}, api.ErrRange},
		{[]int{1, 0, 2}, api.ErrRange},
		{[]int{math.MinInt}, api.ErrRange},
		{[]int{math.MaxInt}, api.ErrRange},
		{[]int{1 << 32}, api.ErrRange},
	} {
		for i := range 4 {
			f := example()
			f.Clauses = slices.Insert(f.Clauses, i, x.c)
			if e := cnf.Check(f); e != x.want || e != lit.Check(3, x.c...) {
				t.Errorf("clause %d of %d literals: %d, want %d", i, len(x.c), e, x.want)
			}
		}
	}
}

func TestCheckLooksAtLastOfAllClauses(t *testing.T) {
	f := formula(2, many(api.MaxClauses, 1, -2)...)
	f.Clauses[api.MaxClauses-1] = []int{1, 3}
	if e := cnf.Check(f); e != api.ErrRange {
		t.Error("the last literal is out of range:", e)
	}
	f.Clauses[api.MaxClauses-1] = repeat(1, api.MaxClause+1)
	if e := cnf.Check(f); e != api.ErrLong {
		t.Error("the last clause is too long:", e)
	}
}

func TestCheckOrderOfErrors(t *testing.T) {
	long, wrong, tooMany := repeat(1, api.MaxClause+1), []int{0}, api.MaxClauses+1
	for _, x := range []struct {
		name string
		f    api.Formula
		want api.Errno
	}{
		{"variables, then the number of clauses", formula(-1, many(tooMany)...), api.ErrRange},
		{"too many variables, then the number of clauses", formula(api.MaxVars+1, many(tooMany)...), api.ErrRange},
		{"variables, then a long clause", formula(-1, long), api.ErrRange},
		{"the number of clauses, then a literal", formula(1, many(tooMany, 2)...), api.ErrLong},
		{"a literal, then a long clause", formula(1, wrong, long), api.ErrRange},
		{"a long clause, then a literal", formula(1, long, wrong), api.ErrLong},
		{"valid, a literal, valid, a long clause, valid", formula(1, []int{1}, wrong, nil, long, []int{-1}), api.ErrRange},
		{"valid, a long clause, valid, a literal, valid", formula(1, []int{1}, long, nil, wrong, []int{-1}), api.ErrLong},
	} {
		if e := cnf.Check(x.f); e != x.want {
			t.Errorf("%s: %d, want %d", x.name, e, x.want)
		}
	}
}

// P2.2

func TestFirstExamples(t *testing.T) {
	for _, x := range []struct {
		m    []bool
		want int
	}{
		{[]bool{true, false, true}, -1},
		{[]bool{false, false, false}, 0},
		{[]bool{true, true, true}, 2},
		{[]bool{true, true, false}, 1},
	} {
		if i := mustFirst(t, example(), x.m); i != x.want {
			t.Errorf("First(F, %v) = %d, want %d", x.m, i, x.want)
		}
	}
	if i, e := cnf.First(api.Formula{}); i != -1 || e != api.OK {
		t.Error("First of no variables and no clauses:", i, e)
	}
}

func TestFirstErrors(t *testing.T) {
	for _, x := range []struct {
		name string
		f    api.Formula
		m    []bool
		want api.Errno
	}{
		{"variables", formula(-1), nil, api.ErrRange},
		{"too many variables, and as many values", formula(api.MaxVars + 1), make([]bool, api.MaxVars+1), api.ErrRange},
		{"too many clauses", formula(1, many(api.MaxClauses+1, 1)...), []bool{true}, api.ErrLong},
		{"a literal", formula(1, []int{2}), []bool{true}, api.ErrRange},
		{"a literal after a clause that does not hold", formula(1, []int{-1}, []int{0}), []bool{true}, api.ErrRange},
		{"a literal in a clause that holds", formula(1, []int{1, 0}), []bool{true}, api.ErrRange},
		{"a long clause", formula(1, repeat(1, api.MaxClause+1)), []bool{true}, api.ErrLong},
		{"a literal, and no values", formula(1, []int{2}), nil, api.ErrRange},
		{"a literal, and a value for it", formula(1, []int{2}), []bool{true, true}, api.ErrRange},
		{"a long clause, and no values", formula(1, repeat(1, api.MaxClause+1)), nil, api.ErrLong},
		{"one value of three", example(), []bool{true}, api.ErrArg},
		{"no values of three", example(), nil, api.ErrArg},
		{"two values of three", example(), []bool{true, false}, api.ErrArg},
		{"four values of three", example(), []bool{true, false, true, true}, api.ErrArg},
		{"one value of none", formula(0), []bool{true}, api.ErrArg},
		{"no value of one, no clauses", formula(1), nil, api.ErrArg},
		{"no value of one, an empty clause", formula(1, nil), nil, api.ErrArg},
		{"a value too few of MaxVars", formula(api.MaxVars), make([]bool, api.MaxVars-1), api.ErrArg},
		{"a value too many of MaxVars", formula(api.MaxVars), make([]bool, api.MaxVars+1), api.ErrArg},
	} {
		if i, e := cnf.First(x.f, x.m...); i != 0 || e != x.want {
			t.Errorf("%s: %d, %d, want 0, %d", x.name, i, e, x.want)
		}
	}
}

func TestFirstOfAllSmallFormulas(t *testing.T) {
	for _, clauses := range lists(smallClauses(), 3) {
		f := formula(2, clauses...)
		for _, m := range models(2) {
			if i, want := mustFirst(t, f, m), first(f, m); i != want {
				t.Fatalf("First(%v, %v) = %d, want %d", f, m, i, want)
			}
		}
	}
}

func TestFirstOfLargeFormula(t *testing.T) {
	const last = api.MaxClauses - 1
	f := formula(api.MaxVars, many(api.MaxClauses, -1, api.MaxVars)...)
	m := make([]bool, api.MaxVars)
	if i := mustFirst(t, f, m); i != -1 {
		t.Error("all clauses hold:", i)
	}
	f.Clauses[last] = repeat(api.MaxVars, api.MaxClause)
	if i := mustFirst(t, f, m); i != last {
		t.Error("only the last clause does not hold:", i)
	}
	m[api.MaxVars-1] = true
	if i := mustFirst(t, f, m); i != -1 {
		t.Error("all clauses hold by the last variable:", i)
	}
	f.Clauses[last] = append(repeat(1, api.MaxClause-1), -2)
	if i := mustFirst(t, f, m); i != -1 {
		t.Error("the last clause holds by its last literal:", i)
	}
}

// P2.3

// anyFormulas returns formulas, some of which are not valid.
func anyFormulas() []api.Formula {
	return []api.Formula{
		{},
		{Vars: 3},
		{Vars: -1},
		{Vars: math.MinInt, Clauses: [][]int{nil}},
		{Vars: math.MaxInt, Clauses: [][]int{{}, {0}, nil}},
		example(),
		formula(0, []int{0, 0}, []int{math.MinInt, math.MaxInt}, []int{5}),
		formula(2, []int{2, 1}, nil, []int{2, 1}, []int{-1}),
		formula(api.MaxVars+1, repeat(-7, api.MaxClause+1), []int{api.MaxVars + 1}),
	}
}

func TestCopyIsEqual(t *testing.T) {
	for _, f := range anyFormulas() {
		before := deep(f)
		c := cnf.Copy(f)
		if !same(c, before) || !same(f, before) || !cnf.Equal(c, f) || !cnf.Equal(f, c) {
			t.Errorf("Copy(%v) = %v, and %v after it", before, c, f)
		}
	}
}

func TestCopyOfTooManyClauses(t *testing.T) {
	f := formula(1, many(api.MaxClauses+1, 1, 0)...)
	c := cnf.Copy(f)
	if !same(c, f) || !cnf.Equal(c, f) {
		t.Error("the copy is different:", len(c.Clauses))
	}
	f.Clauses[api.MaxClauses] = []int{1, 1}
	if cnf.Equal(c, f) {
		t.Error("equal, but for the last literal")
	}
}

func TestCopyIsIndependent(t *testing.T) {
	f := example()
	c := cnf.Copy(f)
	f.Clauses[0][0] = 7
	f.Clauses[1] = nil
	f.Vars = 9
	if !same(c, example()) {
		t.Error("changed with its origin:", c)
	}
	f = example()
	c = cnf.Copy(f)
	for i := range c.Clauses {
		for j := range c.Clauses[i] {
			c.Clauses[i][j] = 8
		}
		c.Clauses[i] = append(c.Clauses[i], 9)
	}
	c.Clauses = append(c.Clauses, []int{1})
	if !same(f, example()) {
		t.Error("changed with its copy:", f)
	}
	a, b := cnf.Copy(f), cnf.Copy(f)
	a.Clauses[2][1] = 5
	if !same(b, example()) {
		t.Error("changed with another copy:", b)
	}
}

func TestClausesOfCopyShareNoMemory(t *testing.T) {
	shared := []int{1, -2, 3, 4}
	f := formula(4, shared, shared, shared[:2], shared[2:], shared[:0])
	want := deep(f)
	for i := range f.Clauses {
		c := cnf.Copy(f)
		for j := range c.Clauses[i] {
			c.Clauses[i][j] = 9
		}
		_ = append(c.Clauses[i], 9, 9, 9, 9)
		c.Clauses[i] = want.Clauses[i]
		if !same(c, want) || !same(f, want) {
			t.Errorf("changing the clause %d of the copy made it %v, and its origin %v", i, c, f)
		}
	}
}

func TestEqual(t *testing.T) {
	f := formula(3, []int{1, 2}, []int{-1, 3}, nil)
	for _, x := range []struct {
		name string
		g    api.Formula
		want bool
	}{
		{"itself", f, true},
		{"the same", formula(3, []int{1, 2}, []int{-1, 3}, nil), true},
		{"empty in place of nil", formula(3, []int{1, 2}, []int{-1, 3}, []int{}), true},
		{"fewer variables", formula(2, []int{1, 2}, []int{-1, 3}, nil), false},
		{"more variables", formula(4, []int{1, 2}, []int{-1, 3}, nil), false},
		{"negative variables", formula(-3, []int{1, 2}, []int{-1, 3}, nil), false},
		{"no clauses", formula(3), false},
		{"a clause fewer", formula(3, []int{1, 2}, []int{-1, 3}), false},
		{"a clause more", formula(3, []int{1, 2}, []int{-1, 3}, nil, nil), false},
		{"the first clause is missing", formula(3, []int{-1, 3}, nil), false},
		{"another order of literals", formula(3, []int{2, 1}, []int{-1, 3}, nil), false},
		{"another order of clauses", formula(3, []int{-1, 3}, []int{1, 2}, nil), false},
		{"a literal is different", formula(3, []int{1, 2}, []int{-1, 2}, nil), false},
		{"a sign is different", formula(3, []int{1, 2}, []int{1, 3}, nil), false},
		{"a literal fewer", formula(3, []int{1, 2}, []int{-1}, nil), false},
		{"a literal more", formula(3, []int{1, 2}, []int{-1, 3}, []int{1}), false},
		{"a literal twice", formula(3, []int{1, 2, 2}, []int{-1, 3}, nil), false},
		{"cut elsewhere", formula(3, []int{1}, []int{2, -1, 3}, nil), false},
	} {
		if cnf.Equal(f, x.g) != x.want || cnf.Equal(x.g, f) != x.want {
			t.Errorf("%s: %v, %v, want %v", x.name, cnf.Equal(f, x.g), cnf.Equal(x.g, f), x.want)
		}
	}
	if cnf.Equal(example(), formula(3, []int{2, 1}, []int{-1, 3}, []int{-2, -3})) {
		t.Error("F with the clause 2 1 in place of 1 2")
	}
	if !cnf.Equal(api.Formula{}, formula(0, [][]int{}...)) || !cnf.Equal(formula(1, nil), formula(1, []int{})) {
		t.Error("nil and empty are not the same")
	}
}

func TestEqualOfAllSmallFormulas(t *testing.T) {
	var all []api.Formula
	for n := range 2 {
		for _, clauses := range lists(smallClauses(), 2) {
			all = append(all, formula(n, clauses...))
		}
	}
	all = append(all, anyFormulas()...)
	for _, a := range all {
		for _, b := range all {
			if cnf.Equal(a, b) != same(a, b) {
				t.Fatalf("Equal(%v, %v) = %v", a, b, cnf.Equal(a, b))
			}
		}
	}
}

// P2.4

func TestFirstWithoutClauses(t *testing.T) {
	for n := range 5 {
		for _, m := range models(n) {
			if i := mustFirst(t, formula(n), m); i != -1 {
				t.Errorf("First of no clauses in %v = %d", m, i)
			}
		}
	}
}

func TestFirstWithEmptyClause(t *testing.T) {
	for _, clauses := range lists(smallClauses(), 2) {
		for at := range len(clauses) + 1 {
			f := formula(2, slices.Insert(slices.Clone(clauses), at, []int{})...)
			for _, m := range models(2) {
				if i := mustFirst(t, f, m); i < 0 || i > at {
					t.Fatalf("First(%v, %v) = %d, but the clause %d is empty", f, m, i, at)
				}
			}
		}
	}
}

// P2.5

func TestFirstWithClausesAppended(t *testing.T) {
	parts := lists(lists([]int{1, -1, 2, -2}, 1), 2)
	for _, clauses := range parts {
		for _, more := range parts {
			f, g := formula(2, clauses...), formula(2, slices.Concat(clauses, more)...)
			for _, m := range models(2) {
				i, j := mustFirst(t, f, m), mustFirst(t, g, m)
				if j != i && (i != -1 || j < len(clauses) || j >= len(clauses)+len(more)) {
					t.Fatalf("First(%v, %v) = %d, but First(%v, %v) = %d", f, m, i, g, m, j)
				}
			}
		}
	}
}

// P2.6

func TestNormInPlaceOfClause(t *testing.T) {
	for _, clauses := range lists(lists([]int{1, -1, -2}, 3), 2) {
		f, g := formula(2, clauses...), formula(2)
		for _, c := range clauses {
			if norm, always := lit.Norm(c...); !always {
				g.Clauses = append(g.Clauses, norm)
			}
		}
		for _, m := range models(2) {
			i, j := mustFirst(t, f, m), mustFirst(t, g, m)
			if (i == -1) != (j == -1) {
				t.Fatalf("First(%v, %v) = %d, but First(%v, %v) = %d", f, m, i, g, m, j)
			}
		}
	}
}

// P2.7

func TestFirstWithOneVariableMore(t *testing.T) {
	for _, clauses := range lists(smallClauses(), 2) {
		f, g := formula(2, clauses...), formula(3, clauses...)
		for _, m := range models(2) {
			want := mustFirst(t, f, m)
			for _, value := range []bool{false, true} {
				if i := mustFirst(t, g, append(slices.Clone(m), value)); i != want {
					t.Fatalf("First(%v, %v) = %d, but with the value %v for a variable more %d", f, m, want, value, i)
				}
			}
		}
	}
}

func TestFirstWithUnusedVariableBetween(t *testing.T) {
	f := formula(3, []int{1, 3}, []int{-1, -3}, []int{-3})
	for _, m := range models(3) {
		other := []bool{m[0], !m[1], m[2]}
		if i, j := mustFirst(t, f, m), mustFirst(t, f, other); i != j {
			t.Errorf("First(%v, %v) = %d, but First(%v, %v) = %d", f, m, i, f, other, j)
		}
	}
}

// R3

func TestArgumentsStay(t *testing.T) {
	f := formula(3, []int{3, -1, 3}[:2], nil, []int{2, 2, -2}, []int{-3})
	before := deep(f)
	for _, m := range models(3) {
		values := slices.Clone(m)
		cnf.Check(f)
		cnf.First(f, values...)
		cnf.Copy(f)
		cnf.Equal(f, before)
		if !same(f, before) || !slices.Equal(m, values) || f.Clauses[0][:3][2] != 3 {
			t.Errorf("changed: %v, %v", f, values)
		}
	}
}
