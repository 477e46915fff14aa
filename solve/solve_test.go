package solve_test

import (
	"math"
	"math/rand/v2"
	"slices"
	"testing"

	"weephole/api"
	"weephole/cnf"
	"weephole/lit"
	"weephole/rup"
	"weephole/solve"
)

const maxBudget = 1 << 40

// answered returns what Solve returns, which must be what it says to be.
func answered(t *testing.T, f api.Formula, budget int) api.Result {
	t.Helper()
	x, e := solve.Solve(f, budget)
	if e != api.OK {
		t.Fatalf("Solve of %d variables and %d clauses: error %d", f.Vars, len(f.Clauses), e)
	}
	switch x.Answer {
	case api.Sat:
		wantModel(t, f, x)
	case api.Unsat:
		wantProof(t, f, x)
	case api.Unknown:
		if len(x.Model) > 0 || len(x.Proof) > 0 {
			t.Fatalf("Unknown with %d values and %d clauses", len(x.Model), len(x.Proof))
		}
		if budget == 0 {
			t.Fatalf("Unknown without a budget, of %d variables and %d clauses", f.Vars, len(f.Clauses))
		}
	default:
		t.Fatal("answer", x.Answer)
	}
	return x
}

// wantModel tells that a result has a model, and no proof.
func wantModel(t *testing.T, f api.Formula, x api.Result) {
	t.Helper()
	if first, e := cnf.First(f, x.Model...); first != -1 || e != api.OK {
		t.Fatalf("of %d variables and %d clauses: the clause %d does not hold with %d values, error %d", f.Vars, len(f.Clauses), first, len(x.Model), e)
	}
	if len(x.Proof) > 0 {
		t.Fatal("Sat with a proof")
	}
}

// wantProof tells that a result has a proof, and no model.
func wantProof(t *testing.T, f api.Formula, x api.Result) {
	t.Helper()
	if first, e := rup.Check(f, x.Proof...); first != -1 || e != api.OK {
		t.Fatalf("of %d variables and %d clauses: the proof of %d clauses fails at %d, error %d", f.Vars, len(f.Clauses), len(x.Proof), first, e)
	}
	if len(x.Model) > 0 {
		t.Fatal("Unsat with a model")
	}
}

// decided returns the answer without a budget.
func decided(t *testing.T, f api.Formula) uint8 {
	t.Helper()
	return answered(t, f, 0).Answer
}

// wantAnswer tells the answer without a budget.
func wantAnswer(t *testing.T, f api.Formula, want uint8) {
	t.Helper()
	if got := decided(t, f); got != want {
		t.Fatalf("of %d variables and %d clauses: answer %d, want %d", f.Vars, len(f.Clauses), got, want)
	}
}

// models returns how many models a formula has.
func models(f api.Formula) int {
	n := 0
	m := make([]bool, f.Vars)
	for bits := range 1 << f.Vars {
		for i := range m {
			m[i] = bits>>i&1 == 1
		}
		holds := func(c []int) bool { return lit.Holds(m, c...) }
		if !slices.ContainsFunc(f.Clauses, func(c []int) bool { return !holds(c) }) {
			n++
		}
	}
	return n
}

// trueAnswer returns the answer that trying all models gives.
func trueAnswer(f api.Formula) uint8 {
	if models(f) > 0 {
		return api.Sat
	}
	return api.Unsat
}

// known is a formula with its answer.
type known struct {
	name string
	f    api.Formula
	want uint8
}

// knownFormulas returns formulas that take some search.
func knownFormulas() []known {
	r := source(2)
	return []known{
		{"pigeons 6 5", pigeons(6, 5), api.Unsat},
		{"pigeons 8 7", pigeons(8, 7), api.Unsat},
		{"pigeons 12 12", pigeons(12, 12), api.Sat},
		{"cycle 99", cycle(99), api.Unsat},
		{"cycle 100", cycle(100), api.Sat},
		{"parity odd", parity(r, 16, true), api.Unsat},
		{"parity even", parity(r, 40, false), api.Sat},
		{"commuted 4", commuted(4), api.Unsat},
		{"commuted 6", commuted(6), api.Unsat},
		{"square 2", square(16, 2), api.Unsat},
		{"square 17", square(16, 17), api.Sat},
		{"factors of a prime", factors(8, 32749), api.Unsat},
		{"factors of a product", factors(8, 181*227), api.Sat},
		{"queens 3", queens(3), api.Unsat},
		{"queens 16", queens(16), api.Sat},
		{"parts", parts(30, false), api.Sat},
		{"parts with one", parts(30, true), api.Sat},
		{"parts without one", with(parts(30, true), []int{-1}), api.Sat},
		{"parts and pigeons", beside(parts(30, true), pigeons(5, 4)), api.Unsat},
		{"threes, few", threes(r, 100, 390), api.Sat},
		{"threes, many", threes(r, 100, 600), api.Unsat},
	}
}

// invalidFormulas returns formulas that are not valid.
func invalidFormulas() []api.Formula {
	return []api.Formula{
		formula(-1),
		formula(math.MinInt),
		formula(api.MaxVars + 1),
		formula(math.MaxInt, []int{1}),
		formula(-1, slices.Repeat([][]int{nil}, api.MaxClauses+1)...),
		formula(1, slices.Repeat([][]int{{1}}, api.MaxClauses+1)...),
		formula(1, slices.Repeat([][]int{{2}}, api.MaxClauses+1)...),
		formula(0, []int{1}),
		formula(1, []int{0}),
		formula(1, []int{2}),
		formula(3, []int{1}, []int{1, -4}),
		formula(1, []int{math.MinInt}),
		formula(1, []int{math.MaxInt}),
		formula(1, slices.Repeat([]int{1}, api.MaxClause+1)),
		formula(1, slices.Repeat([]int{1}, api.MaxClause+1), []int{2}),
		formula(1, []int{2}, slices.Repeat([]int{1}, api.MaxClause+1)),
		// The answer is clear before the fault is reached.
		formula(1, nil, []int{2}),
		formula(1, []int{1}, []int{-1}, []int{1, 0}),
	}
}

// wantError tells that Solve returns an error and nothing else.
func wantError(t *testing.T, f api.Formula, budget int, want api.Errno) {
	t.Helper()
	x, e := solve.Solve(f, budget)
	if e != want || x.Answer != api.Unknown || x.Model != nil || x.Proof != nil {
		t.Errorf("Solve of %d variables and %d clauses, budget %d: answer %d, error %d, want %d", f.Vars, len(f.Clauses), budget, x.Answer, e, want)
	}
}

// P7.1

func TestSolveExamples(t *testing.T) {
	for _, x := range []known{
		{"F", formula(3, []int{1, 2}, []int{-1, 3}, []int{-2, -3}), api.Sat},
		{"all", formula(2, []int{1, 2}, []int{1, -2}, []int{-1, 2}, []int{-1, -2}), api.Unsat},
		{"nothing", formula(0), api.Sat},
		{"an empty clause", formula(0, nil), api.Unsat},
		{"1, -1", formula(1, []int{1}, []int{-1}), api.Unsat},
	} {
		if got := decided(t, x.f); got != x.want {
			t.Errorf("%s: %d", x.name, got)
		}
	}
	if x := answered(t, formula(0, nil), 0); len(x.Proof) != 1 {
		t.Error("the proof for an empty clause:", x.Proof)
	}
	wantError(t, formula(1, []int{1}, []int{-1}), -1, api.ErrRange)
}

func TestSolveOfInvalidFormulas(t *testing.T) {
	for _, f := range invalidFormulas() {
		want := cnf.Check(f)
		if want == api.OK {
			t.Fatal("a valid formula of", f.Vars, "variables")
		}
		for _, budget := range []int{0, 1, maxBudget, -1, maxBudget + 1} {
			wantError(t, f, budget, want)
		}
	}
}

func TestSolveOfBudgets(t *testing.T) {
	for _, f := range []api.Formula{formula(0), formula(0, nil), formula(2, []int{1, 2}), pigeons(3, 2), formula(api.MaxVars)} {
		for _, budget := range []int{-1, -2, -maxBudget, math.MinInt, maxBudget + 1, 2 * maxBudget, math.MaxInt} {
			wantError(t, f, budget, api.ErrRange)
		}
		for _, budget := range []int{0, 1, 2, maxBudget - 1, maxBudget} {
			answered(t, f, budget)
		}
	}
}

func TestSolveOfOddClauses(t *testing.T) {
	for _, x := range []known{
		{"often the same literal", formula(1, slices.Repeat([]int{1}, api.MaxClause)), api.Sat},
		{"often the same literals", formula(1, []int{1, 1, 1}, []int{-1, -1}), api.Unsat},
		{"a literal and its negative", formula(2, []int{1, -1}, []int{2, -2, 2}), api.Sat},
		{"such ones beside others", formula(2, []int{1, -1, 2}, []int{2, 2}, []int{-2, 1, 1}, []int{-1, -1, -2}), api.Unsat},
		{"the same clauses", formula(2, slices.Repeat([][]int{{1, 2}, {-1, 2}}, 50)...), api.Sat},
		{"an empty clause at the end", formula(2, []int{1}, []int{1, 2}, nil), api.Unsat},
		{"an empty clause after others that fail", formula(2, []int{1}, []int{-1}, nil), api.Unsat},
		{"units that lead on", formula(4, []int{-4, 1}, []int{-3, 4}, []int{-2, 3}, []int{2}), api.Sat},
		{"units that fail", formula(4, []int{-4, -2}, []int{-3, 4}, []int{-2, 3}, []int{2}), api.Unsat},
	} {
		if got := decided(t, x.f); got != x.want {
			t.Errorf("%s: %d", x.name, got)
		}
	}
}

func TestSolveAtTheLimits(t *testing.T) {
	n := api.MaxVars
	chain := formula(n)
	for v := 1; v < n; v++ {
		chain.Clauses = append(chain.Clauses, []int{-v, v + 1})
	}
	wantAnswer(t, formula(n), api.Sat)
	wantAnswer(t, with(chain, []int{1}), api.Sat)
	wantAnswer(t, formula(n, slices.Concat(chain.Clauses[1:], [][]int{{2}, {-n}})...), api.Unsat)
	wantAnswer(t, formula(n, []int{n, 1 - n}, []int{-n, 1 - n}, []int{n - 1}), api.Unsat)

	long := make([]int, api.MaxClause)
	for i := range long {
		long[i] = i + 1
	}
	alone := formula(len(long), long)
	for _, x := range long[1:] {
		alone.Clauses = append(alone.Clauses, []int{-x})
	}
	if x := answered(t, alone, 0); x.Answer != api.Sat || !x.Model[0] {
		t.Error("a clause of MaxClause literals: answer", x.Answer)
	}
	wantAnswer(t, with(alone, []int{-1}), api.Unsat)
	full := formula(2, slices.Repeat([][]int{{1, 2}}, api.MaxClauses-3)...)
	wantAnswer(t, with(full, []int{-1, 2}, []int{1, -2}), api.Sat)
	wantAnswer(t, with(full, []int{-1, 2}, []int{1, -2}, []int{-1, -2}), api.Unsat)
}

// A clause that follows from a conflict with more decisions than a clause may have literals has no place in a proof.
func TestSolveNeedsNoLongClauses(t *testing.T) {
	const n = api.MaxClause
	for _, x := range []known{
		{"halves, open", halves(n-1, false), api.Sat},
		{"halves", halves(n-1, true), api.Unsat},
		{"detours, open", detours(2*n, 1, false), api.Sat},
		{"detours, some too many", detours(n+10, 1, true), api.Unsat},
		{"detours, one too many", detours(n, 1, true), api.Unsat},
		{"detours, none too many", detours(n-1, 1, true), api.Unsat},
		{"detours, too many groups", detours(3*n, 2, false), api.Sat},
		{"detours, hardly too many in groups", detours(n+2, 2, true), api.Unsat},
	} {
		// What a solver tries first often is the same value for all variables, in one of both orders.
		for _, negated := range []bool{false, true} {
			for _, reversed := range []bool{false, true} {
				f := renamed(x.f, func(v int) int {
					if reversed {
						v = x.f.Vars + 1 - v
					}
					if negated {
						v = -v
					}
					return v
				})
				if got := decided(t, f); got != x.want {
					t.Errorf("%s, negated %v, reversed %v: %d", x.name, negated, reversed, got)
				}
			}
		}
	}
}

func TestSolveOfManyParts(t *testing.T) {
	const n = 5000
	for _, common := range []bool{false, true} {
		f := parts(n, common)
		wantAnswer(t, f, api.Sat)
		wantAnswer(t, with(f, []int{-1}), api.Sat)
		wantAnswer(t, beside(f, pigeons(4, 3)), api.Unsat)
		// The groups are all there is: 2 is the first one's.
		wantAnswer(t, with(f, []int{-1}, []int{-2}), api.Unsat)
	}
}

func TestSolveKeepsItsArguments(t *testing.T) {
	for _, x := range knownFormulas() {
		before := cnf.Copy(x.f)
		answered(t, x.f, 0)
		if !cnf.Equal(x.f, before) {
			t.Errorf("%s: the formula has changed", x.name)
		}
	}
}

func TestSolveSharesNoMemory(t *testing.T) {
	f := pigeons(5, 4)
	x := answered(t, f, 0)
	before := make([][]int, len(x.Proof))
	for i, c := range x.Proof {
		before[i] = slices.Clone(c)
	}
	for i, c := range x.Proof {
		// What is written into a clause, or appended to it, is in no other one.
		for k := range c {
			c[k] = 0
		}
		_ = append(c, 0, 0, 0)
		for j := i + 1; j < len(x.Proof); j++ {
			if !slices.Equal(x.Proof[j], before[j]) {
				t.Fatal("clauses of a proof share memory:", i, j)
			}
		}
	}
	if y := answered(t, f, 0); !slices.EqualFunc(y.Proof, before, slices.Equal[[]int]) {
		t.Error("another result shares memory with the first one")
	}
	g := pigeons(4, 4)
	m := answered(t, g, 0).Model
	kept := slices.Clone(m)
	for i := range m {
		m[i] = !m[i]
	}
	if again := answered(t, g, 0).Model; !slices.Equal(again, kept) {
		t.Error("models share memory")
	}
}

func TestSolveDependsOnItsArgumentsOnly(t *testing.T) {
	for _, x := range knownFormulas() {
		a, b := answered(t, x.f, 0), answered(t, cnf.Copy(x.f), 0)
		if a.Answer != b.Answer || !slices.Equal(a.Model, b.Model) || !slices.EqualFunc(a.Proof, b.Proof, slices.Equal[[]int]) {
			t.Errorf("%s: two results", x.name)
		}
	}
}

// P7.2

func TestUnknownNeedsABudget(t *testing.T) {
	for _, x := range knownFormulas() {
		if got := answered(t, x.f, maxBudget).Answer; got != x.want {
			t.Errorf("%s, with the greatest budget: %d", x.name, got)
		}
	}
	for _, f := range someFormulas() {
		if got := answered(t, f, maxBudget).Answer; got != trueAnswer(f) {
			t.Fatalf("%v, with the greatest budget: %d", f, got)
		}
	}
}

func TestUnknownNeedsConflicts(t *testing.T) {
	for _, n := range []int{0, 1, 2, 100, api.MaxVars} {
		for _, budget := range []int{0, 1, 2, maxBudget} {
			if got := answered(t, formula(n), budget).Answer; got != api.Sat {
				t.Errorf("%d variables without clauses, budget %d: %d", n, budget, got)
			}
		}
	}
	// No value of a variable is wrong.
	always := formula(5, []int{1, -1}, []int{2, 3, -2}, []int{-5, 5, 1, 4})
	if got := answered(t, always, 1).Answer; got != api.Sat {
		t.Error("clauses that always hold, budget 1:", got)
	}
}

func TestBudgetIsKept(t *testing.T) {
	// A proof takes far more clauses than there may be conflicts.
	f := pigeons(14, 13)
	for _, budget := range []int{1, 2, 100, 1000} {
		if got := answered(t, f, budget).Answer; got != api.Unknown {
			t.Errorf("14 pigeons, budget %d: %d", budget, got)
		}
	}
}

// P7.3, P7.4

func TestSolveOfAllSmallFormulas(t *testing.T) {
	for _, f := range lists(lists([]int{1, -1, 2, -2}, 2), 3) {
		f := formula(2, f...)
		wantAnswer(t, f, trueAnswer(f))
	}
}

func TestSolveOfSomeFormulas(t *testing.T) {
	count := map[uint8]int{}
	for _, f := range someFormulas() {
		want := trueAnswer(f)
		wantAnswer(t, f, want)
		count[want]++
	}
	if count[api.Sat] < 500 || count[api.Unsat] < 500 {
		t.Error("too few of a kind:", count)
	}
}

func TestSolveOfKnownFormulas(t *testing.T) {
	for _, x := range knownFormulas() {
		if got := decided(t, x.f); got != x.want {
			t.Errorf("%s: %d", x.name, got)
		}
	}
}

func TestSolveOfHardFormulas(t *testing.T) {
	r := source(3)
	// So many conflicts that learned clauses have to be forgotten.
	wantAnswer(t, threes(r, 190, 880), api.Unsat)
	wantAnswer(t, beside(parts(200, true), threes(r, 180, 830)), api.Unsat)
	// A formula that some values were chosen for.
	hidden := threes(r, 250, 4000)
	holds := func(c []int) bool { return slices.ContainsFunc(c, func(x int) bool { return x > 0 == (x*x%7 < 3) }) }
	hidden.Clauses = slices.DeleteFunc(hidden.Clauses, func(c []int) bool { return !holds(c) })[:1050]
	wantAnswer(t, hidden, api.Sat)
}

func TestSolveWithAnyBudget(t *testing.T) {
	count := map[uint8]int{}
	for _, f := range someFormulas() {
		want := trueAnswer(f)
		for _, budget := range []int{1, 2, 5, 20} {
			got := answered(t, f, budget).Answer
			if got != api.Unknown && got != want {
				t.Fatalf("%v, budget %d: %d, want %d", f, budget, got, want)
			}
			count[got]++
		}
	}
	for _, x := range knownFormulas() {
		for _, budget := range []int{1, 10, 100, 1000} {
			if got := answered(t, x.f, budget).Answer; got != api.Unknown && got != x.want {
				t.Errorf("%s, budget %d: %d", x.name, budget, got)
			}
		}
	}
	if count[api.Sat] < 500 || count[api.Unsat] < 500 {
		t.Error("too few of a kind:", count)
	}
}

// P7.5

// renamed returns a formula in which literals take the place of the variables.
func renamed(f api.Formula, of func(v int) int) api.Formula {
	g := cnf.Copy(f)
	for _, c := range g.Clauses {
		for i, x := range c {
			c[i] = of(max(x, -x))
			if x < 0 {
				c[i] = -c[i]
			}
		}
	}
	return g
}

// shuffled returns a formula with its clauses and their literals in another order.
func shuffled(r *rand.Rand, f api.Formula) api.Formula {
	g := cnf.Copy(f)
	shuffle(r, g.Clauses)
	for _, c := range g.Clauses {
		shuffle(r, c)
	}
	return g
}

// shuffle puts a list in another order.
func shuffle[T any](r *rand.Rand, list []T) {
	r.Shuffle(len(list), func(i, j int) { list[i], list[j] = list[j], list[i] })
}

// severalKnown returns known formulas, and some of those of which all models can be tried.
func severalKnown() []known {
	all := knownFormulas()
	for i, f := range someFormulas() {
		if i%3 == 0 {
			all = append(all, known{"some formula", f, trueAnswer(f)})
		}
	}
	return all
}

func TestSolveAfterRenaming(t *testing.T) {
	r := source(5)
	for _, x := range severalKnown() {
		names := r.Perm(x.f.Vars)
		signs := literals(r, 1, x.f.Vars)
		for _, g := range []api.Formula{
			renamed(x.f, func(v int) int { return names[v-1] + 1 }),
			renamed(x.f, func(v int) int { return -v }),
			renamed(x.f, func(v int) int { return signs[v-1] * v }),
			renamed(x.f, func(v int) int { return signs[v-1] * (names[v-1] + 1) }),
		} {
			wantAnswer(t, g, x.want)
		}
	}
}

func TestSolveInAnotherOrder(t *testing.T) {
	r := source(6)
	for _, x := range severalKnown() {
		wantAnswer(t, shuffled(r, x.f), x.want)
		g := cnf.Copy(x.f)
		slices.Reverse(g.Clauses)
		wantAnswer(t, g, x.want)
	}
}

func TestSolveWithMoreClauses(t *testing.T) {
	r := source(7)
	for _, x := range severalKnown() {
		if x.want != api.Unsat {
			continue
		}
		more := threes(r, max(x.f.Vars, 3), 10).Clauses
		g := with(x.f, more...)
		g.Vars = max(g.Vars, 3)
		wantAnswer(t, g, api.Unsat)
		wantAnswer(t, formula(g.Vars, slices.Concat(more, x.f.Clauses)...), api.Unsat)
	}
}

// P7.6

// impliedClauses returns clauses that a formula implies.
func impliedClauses(t *testing.T, r *rand.Rand, f api.Formula) [][]int {
	t.Helper()
	var all [][]int
	for range 30 {
		c := literals(r, f.Vars, 1+r.IntN(3))
		is, e := rup.Implied(f, c...)
		if e != api.OK {
			t.Fatal("Implied: error", e)
		}
		if is {
			all = append(all, c)
		}
	}
	return all
}

func TestSolveWithImpliedClauses(t *testing.T) {
	r := source(8)
	n := 0
	for _, x := range severalKnown() {
		implied := impliedClauses(t, r, x.f)
		wantAnswer(t, with(x.f, implied...), x.want)
		n += len(implied)
	}
	if n < 1000 {
		t.Error("too few implied clauses:", n)
	}
}

func TestSolveWithItsProof(t *testing.T) {
	for _, x := range severalKnown() {
		if x.want != api.Unsat {
			continue
		}
		// Each clause of a proof is implied by those before it, the last one by all others.
		proof := answered(t, x.f, 0).Proof
		wantAnswer(t, with(x.f, proof[:len(proof)-1]...), api.Unsat)
		wantAnswer(t, with(x.f, proof...), api.Unsat)
	}
}

// P7.7

// chosen returns the literals that hold in a model.
func chosen(m []bool) []int {
	c := make([]int, len(m))
	for i, is := range m {
		c[i] = -i - 1
		if is {
			c[i] = i + 1
		}
	}
	return c
}

// excluding returns the clause that does not hold in a model alone.
func excluding(m []bool) []int {
	c := chosen(m)
	for i := range c {
		c[i] = -c[i]
	}
	return c
}

func TestSolveWithItsModel(t *testing.T) {
	for _, x := range severalKnown() {
		if x.want != api.Sat {
			continue
		}
		m := answered(t, x.f, 0).Model
		fixed := x.f
		for _, l := range chosen(m) {
			fixed = with(fixed, []int{l})
		}
		if again := answered(t, fixed, 0); !slices.Equal(again.Model, m) {
			t.Fatalf("%s: answer %d, or another model, with the model", x.name, again.Answer)
		}
		wantAnswer(t, with(fixed, excluding(m)), api.Unsat)
		if other := answered(t, with(x.f, excluding(m)), 0); slices.Equal(other.Model, m) {
			t.Fatalf("%s: the model that is excluded", x.name)
		}
	}
}

func TestSolveFindsAllModels(t *testing.T) {
	r := source(9)
	for range 100 {
		f := threes(r, 6, r.IntN(25))
		want := models(f)
		for found := 0; ; found++ {
			x := answered(t, f, 0)
			if x.Answer == api.Unsat {
				if found != want {
					t.Fatalf("%v: %d models, want %d", f, found, want)
				}
				break
			}
			f = with(f, excluding(x.Model))
		}
	}
}
