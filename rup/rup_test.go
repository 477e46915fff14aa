package rup_test

import (
	"math"
	"math/rand/v2"
	"slices"
	"testing"

	"weephole/api"
	"weephole/cnf"
	"weephole/lit"
	"weephole/prop"
	"weephole/rup"
)

// formula returns a formula of n variables.
func formula(n int, clauses ...[]int) api.Formula {
	return api.Formula{Vars: n, Clauses: clauses}
}

// exampleF is the formula F of the chapter.
func exampleF() api.Formula {
	return formula(2, []int{1, 2}, []int{1, -2}, []int{-1, 2}, []int{-1, -2})
}

// exampleG is the formula G of the chapter.
func exampleG() api.Formula {
	return formula(2, []int{1, 2}, []int{1, -2}, []int{-1, 2})
}

// repeat returns a clause of n times the same number.
func repeat(x, n int) []int {
	return slices.Repeat([]int{x}, n)
}

// many returns n times the same clause.
func many(n int, c ...int) [][]int {
	return slices.Repeat([][]int{c}, n)
}

// lists returns all lists of at most size of the elements.
func lists[T any](elements []T, size int) [][]T {
	all := [][]T{nil}
	for from := 0; size > 0; size-- {
		to := len(all)
		for _, l := range all[from:to] {
			for _, x := range elements {
				all = append(all, append(slices.Clone(l), x))
			}
		}
		from = to
	}
	return all
}

// models returns all models of a formula.
func models(t *testing.T, f api.Formula) [][]bool {
	t.Helper()
	var all [][]bool
	for bits := range 1 << f.Vars {
		m := make([]bool, f.Vars)
		for i := range m {
			m[i] = bits>>i&1 == 1
		}
		first, e := cnf.First(f, m...)
		if e != api.OK {
			t.Fatalf("First(%v): error %d", f, e)
		}
		if first == -1 {
			all = append(all, m)
		}
	}
	return all
}

// literals returns up to size literals of n variables, repeated ones and opposite ones among them.
func literals(r *rand.Rand, n, size int) []int {
	c := make([]int, r.IntN(size+1))
	for i := range c {
		c[i] = 1 + r.IntN(n)
		if r.IntN(2) == 0 {
			c[i] = -c[i]
		}
	}
	return c
}

// question is what Check is asked.
type question struct {
	f     api.Formula
	proof [][]int
}

// smallQuestions returns all formulas of two variables and up to three clauses of up to two literals, with a proof of one clause.
func smallQuestions() []question {
	clauses := lists([]int{1, -1, 2, -2}, 2)
	var all []question
	for _, f := range lists(clauses, 3) {
		for _, c := range clauses {
			all = append(all, question{formula(2, f...), [][]int{c}})
		}
	}
	return all
}

// someFormula returns a formula of 3 to 6 variables with clauses of up to size literals, few of them empty.
func someFormula(r *rand.Rand, size int) api.Formula {
	n := 3 + r.IntN(4)
	f := formula(n)
	for range r.IntN(4 * n) {
		if c := literals(r, n, size); len(c) > 0 || r.IntN(30) == 0 {
			f.Clauses = append(f.Clauses, c)
		}
	}
	return f
}

// someQuestions returns formulas with lists of any clauses.
func someQuestions() []question {
	r := rand.New(rand.NewPCG(5, 1))
	var all []question
	for range 4000 {
		f := someFormula(r, 4)
		var proof [][]int
		for range r.IntN(6) {
			proof = append(proof, literals(r, f.Vars, 3))
		}
		all = append(all, question{f, proof})
	}
	return all
}

// searchQuestions returns formulas with proofs that a search finds, and with such in which something was changed.
func searchQuestions() []question {
	r := rand.New(rand.NewPCG(5, 2))
	var all []question
	for range 1500 {
		n := 4 + r.IntN(5)
		f := formula(n)
		for range 6 * n {
			f.Clauses = append(f.Clauses, literals(r, n, 3))
		}
		f.Clauses = slices.DeleteFunc(f.Clauses, func(c []int) bool { return len(c) < 2 })
		proof := search(f, nil)
		all = append(all, question{f, proof}, question{f, changed(r, n, proof)})
	}
	return all
}

// search returns clauses that lead to the negatives of the decisions, by cases of the variables; where there is a model, it gives up.
func search(f api.Formula, decisions []int) [][]int {
	_, fails, _ := prop.Units(f, decisions...)
	v := len(decisions) + 1
	var proof [][]int
	if !fails && v <= f.Vars {
		for _, x := range []int{v, -v} {
			proof = append(proof, search(f, append(slices.Clone(decisions), x))...)
		}
	}
	c := make([]int, len(decisions))
	for i, x := range decisions {
		c[i] = -x
	}
	return append(proof, c)
}

// changed returns a proof with one clause less, one more, one shorter, or two in another order.
func changed(r *rand.Rand, n int, proof [][]int) [][]int {
	p := slices.Clone(proof)
	i, j := r.IntN(len(p)), r.IntN(len(p))
	switch r.IntN(4) {
	case 0:
		p = slices.Delete(p, i, i+1)
	case 1:
		p = slices.Insert(p, i, literals(r, n, 3))
	case 2:
		p[i] = p[i][:len(p[i])/2]
	case 3:
		p[i], p[j] = p[j], p[i]
	}
	return p
}

// allQuestions returns questions of all kinds.
func allQuestions() []question {
	return slices.Concat(smallQuestions(), someQuestions(), searchQuestions())
}

// extended returns a formula with more clauses.
func extended(f api.Formula, clauses ...[]int) api.Formula {
	return formula(f.Vars, slices.Concat(f.Clauses, clauses)...)
}

// mustImplied returns whether a valid clause is implied by a valid formula.
func mustImplied(t *testing.T, f api.Formula, c ...int) bool {
	t.Helper()
	is, e := rup.Implied(f, c...)
	if e != api.OK {
		t.Fatalf("Implied(%v; %v): error %d", f, c, e)
	}
	return is
}

// mustCheck returns the answer to a question that is valid.
func mustCheck(t *testing.T, f api.Formula, proof ...[]int) int {
	t.Helper()
	n, e := rup.Check(f, proof...)
	if e != api.OK {
		t.Fatalf("Check(%v; %v): error %d", f, proof, e)
	}
	return n
}

// modelImplied is the answer of Implied by the words of the definition: all clauses are looked at again and again until nothing follows.
func modelImplied(f api.Formula, c []int) bool {
	// By literal, from -Vars to Vars.
	known := make([]bool, 2*f.Vars+1)
	for _, x := range c {
		known[f.Vars-x] = true
	}
	for again := true; again; {
		again = false
		for _, c := range f.Clauses {
			left, several := 0, false
			for _, x := range c {
				if !known[f.Vars-x] {
					several = several || left != 0 && left != x
					left = x
				}
			}
			if left == 0 {
				return true
			}
			if !several && !known[f.Vars+left] {
				known[f.Vars+left], again = true, true
			}
		}
	}
	for v := 1; v <= f.Vars; v++ {
		if known[f.Vars-v] && known[f.Vars+v] {
			return true
		}
	}
	return false
}

// modelCheck is the answer of Check by the words of the definition.
func modelCheck(f api.Formula, proof [][]int) int {
	for i, c := range proof {
		if !modelImplied(extended(f, proof[:i]...), c) {
			return i
		}
	}
	if len(proof) > 0 && len(proof[len(proof)-1]) == 0 {
		return -1
	}
	return len(proof)
}

// invalidFormulas returns formulas that are not valid.
func invalidFormulas() []api.Formula {
	return []api.Formula{
		formula(-1),
		formula(math.MinInt),
		formula(api.MaxVars + 1),
		formula(math.MaxInt, []int{1}),
		formula(-1, many(api.MaxClauses+1)...),
		formula(1, many(api.MaxClauses+1)...),
		formula(1, many(api.MaxClauses+1, 2)...),
		formula(1, []int{0}),
		formula(1, []int{2}),
		formula(3, []int{1}, []int{1, -4}),
		formula(1, []int{math.MinInt}),
		formula(1, []int{math.MaxInt}),
		formula(1, repeat(1, api.MaxClause+1)),
		formula(1, repeat(1, api.MaxClause+1), []int{2}),
		formula(1, []int{2}, repeat(1, api.MaxClause+1)),
		// They fail before the fault is reached.
		formula(1, nil, []int{2}),
		formula(1, []int{1}, []int{-1}, []int{1, 0}),
	}
}

// invalidClause is a clause that is not valid, with the error.
type invalidClause struct {
	c []int
	e api.Errno
}

// invalidClauses returns clauses that are not valid for n variables.
func invalidClauses(n int) []invalidClause {
	all := []invalidClause{
		{repeat(1, api.MaxClause+1), api.ErrLong},
		{repeat(0, api.MaxClause+1), api.ErrLong},
		{append(repeat(1, api.MaxClause), 0), api.ErrLong},
		{append(repeat(1, api.MaxClause-1), 0), api.ErrRange},
	}
	for _, x := range []int{0, n + 1, -n - 1, api.MaxVars + 1, -api.MaxVars - 1, 1 << 32, -1 << 32, 1<<32 + 1, math.MaxInt, -math.MaxInt, math.MinInt} {
		for _, c := range [][]int{{x}, {x, x}, {1, x}, {x, 1}, {1, -1, x}, {x, -1, 1}} {
			all = append(all, invalidClause{c, api.ErrRange})
		}
	}
	return all
}

// validFormulas returns formulas of all kinds: that fail, of which something follows, and of which nothing does.
func validFormulas() []api.Formula {
	return []api.Formula{
		formula(0),
		formula(0, nil),
		formula(1, []int{1}, []int{-1}),
		formula(2, []int{1}, []int{-1, 2}),
		exampleF(),
		exampleG(),
		formula(api.MaxVars),
	}
}

// P5.1

func TestImpliedExamples(t *testing.T) {
	for _, x := range []struct {
		f    api.Formula
		c    []int
		want bool
	}{
		{exampleF(), []int{1}, true},
		{exampleF(), nil, false},
		{exampleG(), []int{-1}, false},
		{exampleG(), []int{1, -1}, true},
		{exampleG(), []int{2}, true},
		{exampleG(), []int{1, 2}, true},
		{exampleG(), []int{-1, -2}, false},
		{exampleG(), []int{-1, -2, -1}, false},
		{exampleG(), []int{2, 2}, true},
		{formula(2), []int{1, -2}, false},
		{formula(2), []int{1, -2, -1}, true},
		{formula(0), nil, false},
		{formula(0, nil), nil, true},
		{formula(1, nil), []int{1}, true},
		{formula(1, []int{1, 1}), []int{1}, true},
		{formula(1, []int{1, 1}, []int{-1, -1}), nil, true},
		// It follows, but not by unit propagation.
		{formula(3, []int{1, 2, 3}, []int{1, 2, -3}, []int{1, -2, 3}, []int{1, -2, -3}), []int{1}, false},
	} {
		if is, e := rup.Implied(x.f, x.c...); is != x.want || e != api.OK {
			t.Errorf("Implied(%v; %v) = %v, %d", x.f, x.c, is, e)
		}
	}
	if is, e := rup.Implied(exampleF(), 0); is || e != api.ErrRange {
		t.Errorf("Implied(F; 0) = %v, %d", is, e)
	}
}

func TestImpliedOfInvalidFormulas(t *testing.T) {
	for _, f := range invalidFormulas() {
		want := cnf.Check(f)
		if want == api.OK {
			t.Fatal("a valid formula of", f.Vars, "variables")
		}
		for _, c := range [][]int{nil, {1}, {1, -1}, {0}, {5}, {math.MinInt}, repeat(1, api.MaxClause+1)} {
			if is, e := rup.Implied(f, c...); is || e != want {
				t.Errorf("Implied of %d variables and %d clauses = %v, %d, not the error %d", f.Vars, len(f.Clauses), is, e, want)
			}
		}
	}
}

func TestImpliedOfInvalidClauses(t *testing.T) {
	for _, f := range validFormulas() {
		for _, x := range invalidClauses(f.Vars) {
			if is, e := rup.Implied(f, x.c...); is || e != x.e {
				t.Errorf("Implied of %d variables and a clause of %d literals from %d on = %v, %d, not the error %d", f.Vars, len(x.c), x.c[0], is, e, x.e)
			}
		}
	}
}

func TestImpliedAtTheLimits(t *testing.T) {
	if is := mustImplied(t, formula(1, []int{1}), repeat(-1, api.MaxClause)...); is {
		t.Error("MaxClause times the negative of what follows is implied")
	}
	if is := mustImplied(t, formula(1, []int{1}), repeat(1, api.MaxClause)...); !is {
		t.Error("MaxClause times what follows is not implied")
	}
	n := api.MaxVars
	f := formula(n, []int{n, -1}, []int{-n, n - 1})
	for _, x := range []struct {
		c    []int
		want bool
	}{
		{[]int{n - 1, -1}, true},
		{[]int{1 - n, 1}, false},
		{[]int{n, -n}, true},
		{[]int{n}, false},
		{[]int{-n}, false},
	} {
		if is := mustImplied(t, f, x.c...); is != x.want {
			t.Errorf("with MaxVars variables: Implied of %v = %v", x.c, is)
		}
	}
	full := formula(2, append(many(api.MaxClauses-1, 1, 2), []int{1, -2})...)
	if !mustImplied(t, full, 1) || mustImplied(t, full, 2) || mustImplied(t, full) {
		t.Error("with MaxClauses clauses: Implied is wrong")
	}
}

func TestImpliedIsAsDefined(t *testing.T) {
	n, is := 0, 0
	for _, q := range slices.Concat(smallQuestions(), someQuestions()) {
		for _, c := range q.proof {
			got, want := mustImplied(t, q.f, c...), modelImplied(q.f, c)
			if got != want {
				t.Fatalf("Implied(%v; %v) = %v", q.f, c, got)
			}
			n++
			if got {
				is++
			}
		}
	}
	if is < 1000 || n-is < 1000 {
		t.Error("the clauses are too much alike:", is, "of", n, "are implied")
	}
}

// negatives returns the negatives of literals.
func negatives(c []int) []int {
	var all []int
	for _, x := range c {
		all = append(all, -x)
	}
	return all
}

func TestImpliedIsAsUnitsSays(t *testing.T) {
	for _, q := range slices.Concat(someQuestions(), searchQuestions()) {
		for _, c := range q.proof {
			_, fails, e := prop.Units(q.f, negatives(c)...)
			if is := mustImplied(t, q.f, c...); is != fails || e != api.OK {
				t.Fatalf("Implied(%v; %v) = %v, but unit propagation: %v, %d", q.f, c, is, fails, e)
			}
		}
	}
}

// P5.2

func TestCheckExamples(t *testing.T) {
	f, g := exampleF(), exampleG()
	for _, x := range []struct {
		f     api.Formula
		proof [][]int
		want  int
	}{
		{f, [][]int{{1}, {}}, -1},
		{f, [][]int{{}}, 0},
		{f, [][]int{{1}}, 1},
		{f, nil, 0},
		{g, [][]int{{1}, {}}, 1},
		{f, [][]int{{-2}, nil}, -1},
		{f, [][]int{{1}, {}, {1}}, 3},
		{f, [][]int{{1}, {}, {}}, -1},
		{f, [][]int{{1}, {}, {-1}, {-2, 2}}, 4},
		{f, [][]int{{1, 2}, {-1, -2}, {}}, 2},
		{g, [][]int{{1}, {2}, {1, 2}}, 3},
		{g, [][]int{{-2}, {1}}, 0},
		{g, [][]int{{1}, {-2}, {2}}, 1},
		// A clause does not count before it is there.
		{g, [][]int{{}, {-1}, {1}}, 0},
		{formula(0), nil, 0},
		{formula(0), [][]int{nil}, 0},
		{formula(0, nil), nil, 0},
		{formula(0, nil), [][]int{nil}, -1},
		{formula(0, nil), [][]int{nil, nil}, -1},
		{formula(1, []int{1, 1}, []int{-1, -1}), [][]int{{}}, -1},
		{formula(1, []int{1}), [][]int{{1, -1}, {-1, 1, -1}, {1, 1}}, 3},
		{formula(1), [][]int{{1, -1}, {1}}, 1},
	} {
		if n, e := rup.Check(x.f, x.proof...); n != x.want || e != api.OK {
			t.Errorf("Check(%v; %v) = %d, %d, not %d", x.f, x.proof, n, e, x.want)
		}
	}
	if n, e := rup.Check(f, []int{3}); n != 0 || e != api.ErrRange {
		t.Errorf("Check(F; 3) = %d, %d", n, e)
	}
}

func TestCheckOfInvalidFormulas(t *testing.T) {
	for _, f := range invalidFormulas() {
		want := cnf.Check(f)
		if want == api.OK {
			t.Fatal("a valid formula of", f.Vars, "variables")
		}
		for _, proof := range [][][]int{nil, {{}}, {{1}}, {{1}, {}}, {{0}}, {{5}}, {repeat(1, api.MaxClause+1)}, {{}, {math.MinInt}}} {
			if n, e := rup.Check(f, proof...); n != 0 || e != want {
				t.Errorf("Check of %d variables and %d clauses = %d, %d, not the error %d", f.Vars, len(f.Clauses), n, e, want)
			}
		}
	}
}

func TestCheckOfInvalidClauses(t *testing.T) {
	for _, f := range validFormulas() {
		for _, x := range invalidClauses(f.Vars) {
			for _, proof := range [][][]int{
				{x.c},
				{x.c, x.c},
				{x.c, nil},
				{nil, x.c},
				{nil, nil, x.c, nil},
			} {
				if n, e := rup.Check(f, proof...); n != 0 || e != x.e {
					t.Errorf("Check of %d variables and a clause of %d literals from %d on = %d, %d, not the error %d", f.Vars, len(x.c), x.c[0], n, e, x.e)
				}
			}
		}
	}
}

func TestCheckReturnsFirstError(t *testing.T) {
	long, out := repeat(0, api.MaxClause+1), []int{3}
	for _, f := range []api.Formula{exampleF(), exampleG()} {
		for _, x := range []struct {
			proof [][]int
			want  api.Errno
		}{
			{[][]int{long, out}, api.ErrLong},
			{[][]int{out, long}, api.ErrRange},
			{[][]int{{1}, {}, long, out}, api.ErrLong},
			{[][]int{{-1}, {}, out, {1}, long}, api.ErrRange},
		} {
			if n, e := rup.Check(f, x.proof...); n != 0 || e != x.want {
				t.Errorf("Check of %d clauses and a proof of %d = %d, %d, not the error %d", len(f.Clauses), len(x.proof), n, e, x.want)
			}
		}
	}
}

func TestCheckAtTheLimits(t *testing.T) {
	if n := mustCheck(t, formula(1, []int{1}), repeat(1, api.MaxClause), repeat(-1, api.MaxClause)); n != 1 {
		t.Error("with MaxClause literals: Check =", n)
	}
	v := api.MaxVars
	f := formula(v, []int{v, -1}, []int{-v, v - 1})
	if n := mustCheck(t, f, []int{-1, v - 1}, []int{v, 1, -v}, []int{v}, nil); n != 2 {
		t.Error("with MaxVars variables: Check =", n)
	}
	f.Clauses = append(f.Clauses, []int{1}, []int{-v, 1 - v})
	if n := mustCheck(t, f, []int{v}, []int{-v}, nil); n != -1 {
		t.Error("with MaxVars variables: Check of a proof =", n)
	}
}

func TestProofMayBeginWhereFormulaIsFull(t *testing.T) {
	f := formula(2, append(many(api.MaxClauses-3, -1, 2), []int{1, 2}, []int{1, -2}, []int{-1, -2})...)
	if n := mustCheck(t, f, []int{}); n != 0 {
		t.Error("Check of the empty clause =", n)
	}
	if n := mustCheck(t, f, []int{1}, []int{}); n != -1 {
		t.Error("Check of a proof =", n)
	}
	if n := mustCheck(t, f, []int{2}, []int{2, -2}, []int{1}, []int{-1}); n != 4 {
		t.Error("Check of implied clauses =", n)
	}
	f.Clauses[api.MaxClauses-1] = []int{1}
	if n := mustCheck(t, f, []int{1}, []int{2}, []int{-2}, []int{}); n != 2 {
		t.Error("Check of a clause that is not implied =", n)
	}
}

func TestProofMayBeLongerThanFormulas(t *testing.T) {
	for _, size := range []int{api.MaxClauses, api.MaxClauses + 1, api.MaxClauses + 2} {
		proof := many(size, -1)
		if n := mustCheck(t, exampleG(), proof...); n != 0 {
			t.Errorf("Check of %d clauses = %d", size, n)
		}
		proof[size-1] = []int{1, 3}
		if n, e := rup.Check(exampleG(), proof...); n != 0 || e != api.ErrRange {
			t.Errorf("Check of %d clauses, the last one of which is out of range = %d, %d", size, n, e)
		}
		proof[size-1] = repeat(1, api.MaxClause+1)
		if n, e := rup.Check(exampleG(), proof...); n != 0 || e != api.ErrLong {
			t.Errorf("Check of %d clauses, the last one of which is too long = %d, %d", size, n, e)
		}
		proof[size-2] = []int{0}
		if n, e := rup.Check(exampleG(), proof...); n != 0 || e != api.ErrRange {
			t.Errorf("Check of %d clauses, the last two of which are not valid = %d, %d", size, n, e)
		}
	}
}

func TestCheckIsAsDefined(t *testing.T) {
	proofs, middle, all := 0, 0, 0
	for _, q := range allQuestions() {
		got, want := mustCheck(t, q.f, q.proof...), modelCheck(q.f, q.proof)
		if got != want {
			t.Fatalf("Check(%v; %v) = %d, not %d", q.f, q.proof, got, want)
		}
		switch {
		case got == -1:
			proofs++
		case got > 0 && got == len(q.proof):
			all++
		case got > 1:
			middle++
		}
	}
	if proofs < 1000 || middle < 200 || all < 1000 {
		t.Error("the questions are too much alike:", proofs, "proofs,", middle, "of which a later clause is not implied,", all, "of which all are")
	}
}

func TestCheckIsAsImpliedSays(t *testing.T) {
	for _, q := range slices.Concat(someQuestions(), searchQuestions()) {
		n := mustCheck(t, q.f, q.proof...)
		for i, c := range q.proof {
			is := mustImplied(t, extended(q.f, q.proof[:i]...), c...)
			if is == (i == n) {
				t.Fatalf("Check(%v; %v) = %d, but Implied of the clause %d: %v", q.f, q.proof, n, i, is)
			}
			if !is {
				break
			}
		}
	}
}

// cube returns all clauses with each of n variables once, and those with each of the first ones, the longest first: they are a proof.
func cube(n int) (api.Formula, [][]int) {
	levels := [][][]int{{nil}}
	for v := 1; v <= n; v++ {
		var next [][]int
		for _, c := range levels[v-1] {
			next = append(next, append(slices.Clone(c), v), append(slices.Clone(c), -v))
		}
		levels = append(levels, next)
	}
	var proof [][]int
	for v := n - 1; v >= 0; v-- {
		proof = append(proof, levels[v]...)
	}
	return formula(n, levels[n]...), proof
}

func TestCheckOfCubes(t *testing.T) {
	for n := range 9 {
		f, proof := cube(n)
		if n == 0 {
			proof = [][]int{nil}
		}
		if got := mustCheck(t, f, proof...); got != -1 {
			t.Errorf("Check of the cube of %d variables = %d", n, got)
		}
		if got := mustCheck(t, f, proof[:len(proof)-1]...); got != len(proof)-1 {
			t.Errorf("Check of the cube of %d variables without the end of the proof = %d", n, got)
		}
		if n < 2 {
			continue
		}
		for i := range proof {
			less := extended(f)
			less.Clauses = slices.Delete(less.Clauses, i, i+1)
			want := i / 2
			if got := mustCheck(t, less, proof...); got != want {
				t.Errorf("Check of the cube of %d variables without the clause %d = %d", n, i, got)
			}
			if i == 20 {
				break
			}
		}
	}
}

func TestCheckOfLongClauses(t *testing.T) {
	// The formula excludes that all but one of the literals are false, and the proof takes them away one by one.
	const n = 600
	var long []int
	f := formula(n)
	for v := 1; v <= n; v++ {
		long = append(long, v)
		if v > 1 {
			f.Clauses = append(f.Clauses, []int{-v, v - 1})
		}
	}
	f.Clauses = append(f.Clauses, long)
	var proof [][]int
	for size := n - 1; size >= 1; size-- {
		proof = append(proof, long[:size])
	}
	if got := mustCheck(t, f, proof...); got != n-1 {
		t.Error("Check of shorter and shorter clauses =", got)
	}
	if got := mustCheck(t, f, append(proof, nil)...); got != n-1 {
		t.Error("Check with the empty clause =", got)
	}
	f.Clauses = append(f.Clauses, []int{-1, -1})
	if got := mustCheck(t, f, append(proof, nil)...); got != -1 {
		t.Error("Check of a proof with long clauses =", got)
	}
}

// P5.3

func TestWhatIsImpliedHoldsInEveryModel(t *testing.T) {
	for _, q := range slices.Concat(smallQuestions(), someQuestions()) {
		all := models(t, q.f)
		for _, c := range q.proof {
			if !mustImplied(t, q.f, c...) {
				continue
			}
			for _, m := range all {
				if !lit.Holds(m, c...) {
					t.Fatalf("Implied(%v; %v), but it does not hold in the model %v", q.f, c, m)
				}
			}
		}
	}
}

func TestFormulaWithProofHasNoModel(t *testing.T) {
	with, without := 0, 0
	for _, q := range allQuestions() {
		has := len(models(t, q.f)) > 0
		if has {
			with++
		}
		if mustCheck(t, q.f, q.proof...) == -1 {
			without++
			if has {
				t.Fatalf("Check(%v; %v) = -1, but there is a model", q.f, q.proof)
			}
		}
	}
	if with < 1000 || without < 1000 {
		t.Error("the formulas are too much alike:", with, "have a model,", without, "have a proof")
	}
}

// P5.4

func TestClausesOfFormulaAreImplied(t *testing.T) {
	r := rand.New(rand.NewPCG(5, 4))
	for _, q := range someQuestions() {
		for _, c := range q.f.Clauses {
			longer := slices.Concat(c, literals(r, q.f.Vars, 3))
			r.Shuffle(len(longer), func(i, j int) { longer[i], longer[j] = longer[j], longer[i] })
			if !mustImplied(t, q.f, c...) || !mustImplied(t, q.f, longer...) {
				t.Fatalf("%v does not imply its clause %v, or not %v", q.f, c, longer)
			}
			if n := mustCheck(t, q.f, c, longer); n != 2 && len(longer) > 0 {
				t.Fatalf("Check(%v; %v, %v) = %d", q.f, c, longer, n)
			}
		}
	}
}

func TestMoreClausesImplyAsMuch(t *testing.T) {
	r := rand.New(rand.NewPCG(5, 5))
	for _, q := range slices.Concat(smallQuestions(), someQuestions()) {
		clauses := slices.Insert(slices.Clone(q.f.Clauses), r.IntN(len(q.f.Clauses)+1), literals(r, q.f.Vars, 2))
		more := formula(q.f.Vars, clauses...)
		for _, c := range q.proof {
			if mustImplied(t, q.f, c...) && !mustImplied(t, more, c...) {
				t.Fatalf("%v implies %v, but %v does not", q.f, c, more)
			}
		}
	}
}

// P5.5

func TestProofWithMoreClausesIsProof(t *testing.T) {
	r := rand.New(rand.NewPCG(5, 6))
	for _, q := range slices.Concat(someQuestions(), searchQuestions()) {
		if mustCheck(t, q.f, q.proof...) != -1 {
			continue
		}
		var before [][]int
		for _, c := range slices.Concat(q.f.Clauses, many(3, literals(r, q.f.Vars, 3)...)) {
			if mustImplied(t, q.f, c...) {
				before = append(before, c)
			}
		}
		if n := mustCheck(t, q.f, slices.Concat(before, q.proof)...); n != -1 {
			t.Fatalf("Check(%v; %v) = -1, but with %v before it %d", q.f, q.proof, before, n)
		}
		clauses := slices.Insert(slices.Clone(q.f.Clauses), r.IntN(len(q.f.Clauses)+1), literals(r, q.f.Vars, 3))
		if n := mustCheck(t, formula(q.f.Vars, clauses...), q.proof...); n != -1 {
			t.Fatalf("Check(%v; %v) = -1, but with the clauses %v %d", q.f, q.proof, clauses, n)
		}
	}
}

func TestClauseThatIsThereTwiceDoesNoHarm(t *testing.T) {
	for _, q := range slices.Concat(someQuestions(), searchQuestions()) {
		n := mustCheck(t, q.f, q.proof...)
		twice := formula(q.f.Vars, slices.Concat(q.f.Clauses, q.f.Clauses)...)
		if m := mustCheck(t, twice, q.proof...); m != n {
			t.Fatalf("Check(%v; %v) = %d, but with each clause twice %d", q.f, q.proof, n, m)
		}
		var proof [][]int
		for _, c := range q.proof {
			proof = append(proof, c, slices.Concat(c, c))
		}
		want := 2 * n
		if n == -1 {
			want = -1
		}
		if m := mustCheck(t, q.f, proof...); m != want {
			t.Fatalf("Check(%v; %v) = %d, but with each clause of the proof twice %d", q.f, q.proof, n, m)
		}
	}
}

// P5.6

func TestCheckOfBeginnings(t *testing.T) {
	n := 0
	for _, q := range allQuestions() {
		i := mustCheck(t, q.f, q.proof...)
		if i == -1 || i == len(q.proof) {
			continue
		}
		n++
		if j := mustCheck(t, q.f, q.proof[:i+1]...); j != i {
			t.Fatalf("Check(%v; %v) = %d, but of the clauses up to that one %d", q.f, q.proof, i, j)
		}
		if j := mustCheck(t, q.f, q.proof[:i]...); j != i && (j != -1 || len(q.proof[i-1]) > 0) {
			t.Fatalf("Check(%v; %v) = %d, but of the clauses before that one %d", q.f, q.proof, i, j)
		}
	}
	if n < 1000 {
		t.Error("a clause is not implied only", n, "times")
	}
}

func TestClauseThatDoesNotHoldIsNotImplied(t *testing.T) {
	for _, q := range someQuestions() {
		for _, m := range models(t, q.f) {
			for i, c := range q.proof {
				if lit.Holds(m, c...) {
					continue
				}
				if mustImplied(t, q.f, c...) {
					t.Fatalf("Implied(%v; %v), but it does not hold in the model %v", q.f, c, m)
				}
				if n := mustCheck(t, q.f, q.proof...); n == -1 || n > i {
					t.Fatalf("Check(%v; %v) = %d, but the clause %d does not hold in the model %v", q.f, q.proof, n, i, m)
				}
			}
		}
	}
}

// P5.7

func TestEmptyClauseIsImpliedIfFormulaFails(t *testing.T) {
	fails := 0
	for _, q := range allQuestions() {
		_, want, e := prop.Units(q.f)
		if is := mustImplied(t, q.f); is != want || e != api.OK {
			t.Fatalf("Implied(%v; none) = %v, but unit propagation fails: %v, %d", q.f, is, want, e)
		}
		if n := mustCheck(t, q.f, nil); (n == -1) != want {
			t.Fatalf("Check(%v; empty) = %d, but unit propagation fails: %v", q.f, n, want)
		}
		if want {
			fails++
		}
	}
	if fails < 1000 {
		t.Error("unit propagation fails only", fails, "times")
	}
}

func TestAllIsImpliedAfterEmptyClause(t *testing.T) {
	r := rand.New(rand.NewPCG(5, 7))
	for _, q := range slices.Concat(someQuestions(), searchQuestions()) {
		if mustCheck(t, q.f, q.proof...) != -1 {
			continue
		}
		proof := slices.Clone(q.proof)
		for range 4 {
			proof = append(proof, literals(r, q.f.Vars, 4))
		}
		want := len(proof)
		if len(proof[want-1]) == 0 {
			want = -1
		}
		if n := mustCheck(t, q.f, proof...); n != want {
			t.Fatalf("Check(%v; %v) = -1, but Check of %v = %d", q.f, q.proof, proof, n)
		}
	}
}

// R3 and R6

// roomy returns copies of clauses with room behind each.
func roomy(clauses [][]int) [][]int {
	all := make([][]int, len(clauses), len(clauses)+4)
	for i, c := range clauses {
		all[i] = slices.Grow(slices.Clone(c), 4)
	}
	return all
}

// untouched reports whether roomy clauses are as the given ones, and nothing was written behind them.
func untouched(roomy, clauses [][]int) bool {
	for _, c := range roomy {
		if slices.ContainsFunc(c[:cap(c)][len(c):], func(x int) bool { return x != 0 }) {
			return false
		}
	}
	for _, c := range roomy[:cap(roomy)][len(roomy):] {
		if c != nil {
			return false
		}
	}
	return slices.EqualFunc(roomy, clauses, slices.Equal[[]int])
}

func TestArgumentsStay(t *testing.T) {
	for _, q := range slices.Concat(someQuestions(), searchQuestions()) {
		f, proof := formula(q.f.Vars, roomy(q.f.Clauses)...), roomy(q.proof)
		first := mustCheck(t, f, proof...)
		for _, c := range proof {
			mustImplied(t, f, c...)
		}
		if !untouched(f.Clauses, q.f.Clauses) || !untouched(proof, q.proof) {
			t.Fatalf("Check or Implied changed the formula %v or the proof %v", q.f, q.proof)
		}
		if second := mustCheck(t, f, proof...); first != second {
			t.Fatalf("Check(%v; %v) = %d, then %d", q.f, q.proof, first, second)
		}
	}
}

func TestClausesMayShareMemory(t *testing.T) {
	long := []int{1, -2, 3, -4, 5}
	f := formula(5, long, long[:2], long[1:4], long[3:], long, []int{-1, -5})
	proof := [][]int{long, {-1, -4}, long[:3], {-5, -2}, {4, 3}}
	copies := formula(5, roomy(f.Clauses)...)
	if n, want := mustCheck(t, f, proof...), mustCheck(t, copies, roomy(proof)...); n != want || want != modelCheck(copies, proof) {
		t.Errorf("Check(%v; %v) = %d, but of copies %d", f, proof, n, want)
	}
}
