package prop_test

import (
	"cmp"
	"math"
	"math/rand/v2"
	"slices"
	"testing"

	"weephole/api"
	"weephole/cnf"
	"weephole/lit"
	"weephole/prop"
)

// formula returns a formula of n variables.
func formula(n int, clauses ...[]int) api.Formula {
	return api.Formula{Vars: n, Clauses: clauses}
}

// example is the formula F of the chapter.
func example() api.Formula {
	return formula(3, []int{1, 2}, []int{-1, 3}, []int{-2, -3})
}

// repeat returns a clause of n times the same number.
func repeat(x, n int) []int {
	return slices.Repeat([]int{x}, n)
}

// many returns n times the same clause.
func many(n int, c ...int) [][]int {
	return slices.Repeat([][]int{c}, n)
}

// lists returns all lists of at most size of the elements.
func lists[T any](elements []T, size int) [][]T {
	all := [][]T{nil}
	for from := 0; size > 0; size-- {
		to := len(all)
		for _, l := range all[from:to] {
			for _, x := range elements {
				all = append(all, append(slices.Clone(l), x))
			}
		}
		from = to
	}
	return all
}

// models returns all models of n variables.
func models(n int) [][]bool {
	var all [][]bool
	for bits := range 1 << n {
		m := make([]bool, n)
		for i := range m {
			m[i] = bits>>i&1 == 1
		}
		all = append(all, m)
	}
	return all
}

// question is what Units is asked.
type question struct {
	f      api.Formula
	assume []int
}

// smallQuestions returns all formulas of two variables and up to three clauses of up to two literals, with up to two assumptions.
func smallQuestions() []question {
	clauses := lists([]int{1, -1, 2, -2}, 2)
	var all []question
	for _, c := range lists(clauses, 3) {
		for _, assume := range clauses {
			all = append(all, question{formula(2, c...), assume})
		}
	}
	return all
}

// literals returns up to size literals of n variables, repeated ones and opposite ones among them.
func literals(r *rand.Rand, n, size int) []int {
	c := make([]int, r.IntN(size+1))
	for i := range c {
		c[i] = 1 + r.IntN(n)
		if r.IntN(2) == 0 {
			c[i] = -c[i]
		}
	}
	return c
}

// someQuestions returns formulas of 3 to 6 variables with assumptions; many of them do not fail, but let much follow.
func someQuestions() []question {
	r := rand.New(rand.NewPCG(4, 1))
	var all []question
	for range 6000 {
		n := 3 + r.IntN(4)
		f := formula(n)
		for range r.IntN(3 * n) {
			if c := literals(r, n, 5); len(c) > 0 || r.IntN(20) == 0 {
				f.Clauses = append(f.Clauses, c)
			}
		}
		all = append(all, question{f, literals(r, n, 3)})
	}
	return all
}

// answer is what Units returns.
type answer struct {
	known []int
	fails bool
	e     api.Errno
}

// units returns what Units returns.
func units(f api.Formula, assume ...int) answer {
	known, fails, e := prop.Units(f, assume...)
	return answer{known, fails, e}
}

// same reports whether two answers are equal.
func same(a, b answer) bool {
	return slices.Equal(a.known, b.known) && a.fails == b.fails && a.e == b.e
}

// mustUnits returns the answer to a question that is valid.
func mustUnits(t *testing.T, q question) answer {
	t.Helper()
	x := units(q.f, q.assume...)
	if x.e != api.OK {
		t.Fatalf("Units(%v; %v): error %d", q.f, q.assume, x.e)
	}
	if x.fails && len(x.known) > 0 {
		t.Fatalf("Units(%v; %v): %v though it fails", q.f, q.assume, x.known)
	}
	return x
}

// model is the answer by the words of the definition: all clauses are looked at again and again until nothing follows.
func model(q question) answer {
	known := map[int]bool{}
	for _, x := range q.assume {
		known[x] = true
	}
	for again := true; again; {
		again = false
		for _, c := range q.f.Clauses {
			left := map[int]bool{}
			for _, x := range c {
				if !known[-x] {
					left[x] = true
				}
			}
			if len(left) == 0 {
				return answer{fails: true}
			}
			for x := range left {
				if len(left) == 1 && !known[x] {
					known[x], again = true, true
				}
			}
		}
	}
	var all []int
	for x := range known {
		if known[-x] {
			return answer{fails: true}
		}
		all = append(all, x)
	}
	slices.SortFunc(all, func(a, b int) int {
		return cmp.Compare(max(a, -a), max(b, -b))
	})
	return answer{known: all}
}

// P4.1

func TestUnitsExamples(t *testing.T) {
	for _, x := range []struct {
		f      api.Formula
		assume []int
		want   answer
	}{
		{example(), nil, answer{}},
		{example(), []int{1}, answer{known: []int{1, -2, 3}}},
		{example(), []int{-1}, answer{known: []int{-1, 2, -3}}},
		{example(), []int{-2, 3}, answer{known: []int{1, -2, 3}}},
		{example(), []int{1, 2}, answer{fails: true}},
		{example(), []int{1, -1}, answer{fails: true}},
		{example(), []int{1, 1}, answer{known: []int{1, -2, 3}}},
		{example(), []int{4}, answer{e: api.ErrRange}},
		{example(), []int{0}, answer{e: api.ErrRange}},
		{formula(1, []int{1, 1}, []int{-1, -1}), nil, answer{fails: true}},
		{formula(0, nil), nil, answer{fails: true}},
		{formula(2, []int{1, -1}), []int{-2}, answer{known: []int{-2}}},
	} {
		if got := units(x.f, x.assume...); !same(got, x.want) {
			t.Errorf("Units(%v; %v) = %v, not %v", x.f, x.assume, got, x.want)
		}
	}
}

func TestUnitsOfInvalidFormulas(t *testing.T) {
	for _, f := range []api.Formula{
		formula(-1),
		formula(math.MinInt),
		formula(api.MaxVars + 1),
		formula(math.MaxInt, []int{1}),
		formula(-1, many(api.MaxClauses+1)...),
		formula(1, many(api.MaxClauses+1)...),
		formula(1, []int{0}),
		formula(1, []int{2}),
		formula(3, []int{1}, []int{1, -4}),
		formula(1, []int{math.MinInt}),
		formula(1, []int{math.MaxInt}),
		formula(1, repeat(1, api.MaxClause+1)),
		formula(1, repeat(1, api.MaxClause+1), []int{2}),
		formula(1, []int{2}, repeat(1, api.MaxClause+1)),
		// It fails before the fault is reached.
		formula(1, nil, []int{2}),
		formula(1, []int{1}, []int{-1}, []int{1, 0}),
	} {
		want := cnf.Check(f)
		if want == api.OK {
			t.Fatal("a valid formula of", f.Vars, "variables")
		}
		for _, assume := range [][]int{nil, {1}, {1, -1}, {0}, {5}, {math.MinInt}} {
			if got := units(f, assume...); !same(got, answer{e: want}) {
				t.Errorf("Units of %d variables and %d clauses; %v = %v, not the error %d", f.Vars, len(f.Clauses), assume, got, want)
			}
		}
	}
}

func TestUnitsOfInvalidAssumptions(t *testing.T) {
	for _, f := range []api.Formula{
		formula(0),
		formula(0, nil),
		formula(1, []int{1}, []int{-1}),
		formula(2, []int{1}, []int{-1, 2}),
		example(),
		formula(api.MaxVars),
	} {
		for _, x := range []int{0, f.Vars + 1, -f.Vars - 1, api.MaxVars + 1, -api.MaxVars - 1, 1 << 32, -1 << 32, 1<<32 + 1, math.MaxInt, -math.MaxInt, math.MinInt} {
			for _, assume := range [][]int{{x}, {x, x}, {1, x}, {x, 1}, {1, -1, x}, {2, x, -1}} {
				if got := units(f, assume...); !same(got, answer{e: api.ErrRange}) {
					t.Errorf("Units of %d variables; %v = %v", f.Vars, assume, got)
				}
			}
		}
	}
}

func TestUnitsWithGreatestVariable(t *testing.T) {
	for _, n := range []int{1, 2, api.MaxVars - 1, api.MaxVars} {
		if got := units(formula(n), n); !same(got, answer{known: []int{n}}) {
			t.Errorf("Units of %d variables; %d = %v", n, n, got)
		}
		if got := units(formula(n, []int{n, -1}), 1); !same(got, answer{known: slices.Compact([]int{1, n})}) {
			t.Errorf("Units of %d variables and the clause %d -1; 1 = %v", n, n, got)
		}
		if got := units(formula(n, []int{-n, -n})); !same(got, answer{known: []int{-n}}) {
			t.Errorf("Units of %d variables and the clause %d %d = %v", n, -n, -n, got)
		}
	}
}

func TestUnitsWithManyAssumptions(t *testing.T) {
	f := example()
	for _, n := range []int{api.MaxClause - 1, api.MaxClause, api.MaxClause + 1, api.MaxVars + 1} {
		assume := repeat(1, n)
		if got := units(f, assume...); !same(got, answer{known: []int{1, -2, 3}}) {
			t.Errorf("Units with %d times the assumption 1 = %v", n, got)
		}
		if got := units(f, append(assume, -1)...); !same(got, answer{fails: true}) {
			t.Errorf("Units with %d times the assumption 1, and -1 = %v", n, got)
		}
		if got := units(f, append(assume, 4)...); !same(got, answer{e: api.ErrRange}) {
			t.Errorf("Units with %d times the assumption 1, and 4 = %v", n, got)
		}
	}
}

func TestUnitsOfSmallFormulas(t *testing.T) {
	for _, q := range smallQuestions() {
		if got, want := mustUnits(t, q), model(q); !same(got, want) {
			t.Fatalf("Units(%v; %v) = %v, not %v", q.f, q.assume, got, want)
		}
	}
}

func TestUnitsOfSomeFormulas(t *testing.T) {
	fails, follow := 0, 0
	for _, q := range someQuestions() {
		got, want := mustUnits(t, q), model(q)
		if !same(got, want) {
			t.Fatalf("Units(%v; %v) = %v, not %v", q.f, q.assume, got, want)
		}
		if got.fails {
			fails++
		} else if len(got.known) > len(q.assume) {
			follow++
		}
	}
	if fails < 1000 || follow < 1000 {
		t.Error("the formulas are too much alike:", fails, "fail, and something follows of", follow)
	}
}

func TestUnitsOfLongClause(t *testing.T) {
	// All literals but the one in the middle are false, each at both ends of the clause.
	n := api.MaxClause / 2
	var c, assume []int
	for v := 1; v <= n; v++ {
		c = append(c, v)
	}
	for v := n; v >= 1; v-- {
		c = append(c, v)
	}
	for v := 1; v <= n; v++ {
		if v != n/2 {
			assume = append(assume, -v)
		}
	}
	want := slices.Concat(assume[:n/2-1], []int{n / 2}, assume[n/2-1:])
	for range 2 {
		if got := units(formula(n, c), assume...); !same(got, answer{known: want}) {
			t.Errorf("Units of a clause of %d literals, of which one is left: %d literals, %v, %d", len(c), len(got.known), got.fails, got.e)
		}
		slices.Reverse(assume)
	}
	if got := units(formula(n, c), assume[1:]...); len(got.known) != n-2 || got.fails || got.e != api.OK {
		t.Errorf("Units of a clause of %d literals, of which two are left: %d literals, %v, %d", len(c), len(got.known), got.fails, got.e)
	}
	if got := units(formula(n, c), append(assume, -n/2)...); !same(got, answer{fails: true}) {
		t.Errorf("Units of a clause of %d literals that are all false: %d literals, %v, %d", len(c), len(got.known), got.fails, got.e)
	}
}

func TestUnitsOfLongChain(t *testing.T) {
	f := formula(api.MaxVars)
	var want []int
	for v := 1; v < api.MaxVars; v++ {
		f.Clauses = append(f.Clauses, []int{-v, v + 1})
	}
	if got := units(f); !same(got, answer{}) {
		t.Errorf("Units of the chain: %d literals, %v, %d", len(got.known), got.fails, got.e)
	}
	for v := 1; v <= api.MaxVars; v++ {
		want = append(want, v)
	}
	if got := units(f, 1); !same(got, answer{known: want}) {
		t.Errorf("Units of the chain from its beginning: %d literals, %v, %d", len(got.known), got.fails, got.e)
	}
	for i := range want {
		want[i] = -want[i]
	}
	if got := units(f, -api.MaxVars); !same(got, answer{known: want}) {
		t.Errorf("Units of the chain from its end: %d literals, %v, %d", len(got.known), got.fails, got.e)
	}
	if got := units(f, -api.MaxVars, 1); !same(got, answer{fails: true}) {
		t.Errorf("Units of the chain from both ends: %d literals, %v, %d", len(got.known), got.fails, got.e)
	}
	f.Clauses = append(f.Clauses, []int{-api.MaxVars, -api.MaxVars + 1})
	if got := units(f, 1); !same(got, answer{fails: true}) {
		t.Errorf("Units of the chain that excludes its beginning: %d literals, %v, %d", len(got.known), got.fails, got.e)
	}
}

// P4.2

func TestNothingIsLeftToFollow(t *testing.T) {
	for _, q := range slices.Concat(smallQuestions(), someQuestions()) {
		got := mustUnits(t, q)
		if got.fails {
			continue
		}
		for _, x := range q.assume {
			if !slices.Contains(got.known, x) {
				t.Fatalf("Units(%v; %v) = %v without %d", q.f, q.assume, got.known, x)
			}
		}
		for i, x := range got.known {
			if slices.Contains(got.known, -x) || i > 0 && !lit.Less(got.known[i-1], x) {
				t.Fatalf("Units(%v; %v) = %v", q.f, q.assume, got.known)
			}
		}
		for _, c := range q.f.Clauses {
			left, _ := lit.Norm(c...)
			holds := len(left) == 0 && len(c) > 0
			for _, x := range got.known {
				holds = holds || slices.Contains(left, x)
				left = slices.DeleteFunc(left, func(y int) bool { return y == -x })
			}
			if !holds && len(left) < 2 {
				t.Fatalf("Units(%v; %v) = %v, but %v is left of %v", q.f, q.assume, got.known, left, c)
			}
		}
	}
}

// P4.3

func TestWhatFollowsHoldsInEveryModel(t *testing.T) {
	for _, q := range slices.Concat(smallQuestions(), someQuestions()) {
		got := mustUnits(t, q)
		for _, m := range models(q.f.Vars) {
			first, e := cnf.First(q.f, m...)
			if e != api.OK {
				t.Fatal("First:", e)
			}
			if first != -1 || !all(m, q.assume) {
				continue
			}
			if got.fails || !all(m, got.known) {
				t.Fatalf("Units(%v; %v) = %v, %v, but %v is a model", q.f, q.assume, got.known, got.fails, m)
			}
		}
	}
}

// all reports whether all of the literals hold in a model.
func all(m []bool, literals []int) bool {
	for _, x := range literals {
		if !lit.Holds(m, x) {
			return false
		}
	}
	return true
}

// P4.4

func TestUnitsOfUnits(t *testing.T) {
	for _, q := range slices.Concat(smallQuestions(), someQuestions()) {
		got := mustUnits(t, q)
		if got.fails {
			continue
		}
		if again := units(q.f, got.known...); !same(again, got) {
			t.Fatalf("Units(%v; %v) = %v, but with %v assumed %v", q.f, q.assume, got, got.known, again)
		}
	}
}

// atLeast reports whether an answer is that it fails, or has at least what another one has.
func atLeast(a, b answer) bool {
	if a.fails || b.fails {
		return a.fails
	}
	return !slices.ContainsFunc(b.known, func(x int) bool { return !slices.Contains(a.known, x) })
}

func TestMoreFollowsFromMore(t *testing.T) {
	r := rand.New(rand.NewPCG(4, 4))
	for _, q := range someQuestions() {
		got := mustUnits(t, q)
		x := literals(r, q.f.Vars, 2)
		more := question{q.f, slices.Insert(slices.Clone(q.assume), r.IntN(len(q.assume)+1), x...)}
		if after := mustUnits(t, more); !atLeast(after, got) {
			t.Fatalf("Units(%v; %v) = %v, but with %v assumed %v", q.f, q.assume, got, more.assume, after)
		}
		clauses := slices.Insert(slices.Clone(q.f.Clauses), r.IntN(len(q.f.Clauses)+1), x)
		if after := mustUnits(t, question{formula(q.f.Vars, clauses...), q.assume}); !atLeast(after, got) {
			t.Fatalf("Units(%v; %v) = %v, but with the clause %v %v", q.f, q.assume, got, x, after)
		}
	}
}

// P4.5

// mixed returns the elements in another order, some of them several times.
func mixed[T any](r *rand.Rand, list []T) []T {
	m := slices.Clone(list)
	if len(m) > 0 {
		for range r.IntN(4) {
			m = append(m, list[r.IntN(len(list))])
		}
	}
	r.Shuffle(len(m), func(i, j int) { m[i], m[j] = m[j], m[i] })
	return m
}

func TestOrderMakesNoDifference(t *testing.T) {
	r := rand.New(rand.NewPCG(4, 5))
	for _, q := range slices.Concat(smallQuestions()[:20000], someQuestions()) {
		got := mustUnits(t, q)
		clauses := mixed(r, q.f.Clauses)
		for i, c := range clauses {
			clauses[i] = mixed(r, c)
		}
		other := question{formula(q.f.Vars, clauses...), mixed(r, q.assume)}
		if x := mustUnits(t, other); !same(x, got) {
			t.Fatalf("Units(%v; %v) = %v, but Units(%v; %v) = %v", q.f, q.assume, got, other.f, other.assume, x)
		}
	}
}

// P4.6

func TestAllKnownIsModel(t *testing.T) {
	n := 0
	for _, q := range slices.Concat(smallQuestions(), someQuestions()) {
		got := mustUnits(t, q)
		if got.fails || len(got.known) < q.f.Vars {
			continue
		}
		n++
		m := make([]bool, q.f.Vars)
		for i, x := range got.known {
			if max(x, -x) != i+1 {
				t.Fatalf("Units(%v; %v) = %v", q.f, q.assume, got.known)
			}
			m[i] = x > 0
		}
		if first, e := cnf.First(q.f, m...); first != -1 || e != api.OK {
			t.Fatalf("Units(%v; %v) = %v, which is no model: %d, %d", q.f, q.assume, got.known, first, e)
		}
	}
	if n < 1000 {
		t.Error("all variables are known only", n, "times")
	}
}

// R3

func TestArgumentsStay(t *testing.T) {
	for _, q := range someQuestions()[:1000] {
		clauses := slices.Clone(q.f.Clauses)
		for i, c := range clauses {
			// Nothing may be written behind a clause either.
			clauses[i] = slices.Grow(slices.Clone(c), 4)
		}
		assume := slices.Grow(slices.Clone(q.assume), 4)
		before := mustUnits(t, q)
		for i := range before.known {
			before.known[i] = 0
		}
		if !slices.EqualFunc(q.f.Clauses, clauses, slices.Equal[[]int]) || !slices.Equal(q.assume, assume) {
			t.Fatalf("Units changed the formula %v or the assumptions %v", clauses, assume)
		}
		first := mustUnits(t, question{formula(q.f.Vars, clauses...), assume})
		if second := mustUnits(t, q); !same(first, second) {
			t.Fatalf("Units(%v; %v) = %v, then %v", q.f, q.assume, first, second)
		}
		for i, c := range clauses {
			if rest := c[:cap(c)][len(c):]; slices.ContainsFunc(rest, func(x int) bool { return x != 0 }) {
				t.Fatalf("Units wrote %v behind the clause %d", rest, i)
			}
		}
	}
}

func TestResultSharesNoMemory(t *testing.T) {
	assume := []int{1, -2, 3}
	c := []int{1, 2, 3}
	got := units(formula(3, c), assume...)
	got.known[0], got.known[1], got.known[2] = 7, 8, 9
	if !slices.Equal(assume, []int{1, -2, 3}) || !slices.Equal(c, []int{1, 2, 3}) {
		t.Error("the result shares memory with the arguments:", assume, c)
	}
}

func TestClausesMayShareMemory(t *testing.T) {
	long := []int{1, 2, 3, 4, 5}
	f := formula(5, long, long[:2], long[1:4], long[3:], long)
	q := question{f, []int{-1, -3, -4}}
	if got := mustUnits(t, q); !same(got, answer{known: []int{-1, 2, -3, -4, 5}}) {
		t.Errorf("Units(%v; %v) = %v", q.f, q.assume, got)
	}
}
