package solve

import (
	"math/rand/v2"
	"slices"
	"testing"

	"weephole/api"
	"weephole/cnf"
	"weephole/rup"
)

// The usual settings matter only where there are thousands of levels or conflicts. With others the same happens in formulas of which all models can be tried.

// someSettings returns settings of all kinds.
func someSettings() []settings {
	var all []settings
	for _, longest := range []int{1, 2, 3, api.MaxClause} {
		for _, far := range []int{0, 1, 3, 1000} {
			for _, unit := range []int{1, 3, 100} {
				all = append(all, settings{longest, far, unit, 3 * unit})
			}
		}
	}
	return all
}

// someFormula returns a formula about as often with a model as without one.
func someFormula(r *rand.Rand) api.Formula {
	n := 8 + r.IntN(5)
	f := api.Formula{Vars: n}
	for range 5*n - r.IntN(n) {
		c := make([]int, 3)
		for i := range c {
			c[i] = 1 + r.IntN(n)
			if r.IntN(2) == 0 {
				c[i] = -c[i]
			}
		}
		f.Clauses = append(f.Clauses, c)
	}
	return f
}

// hasModel reports whether a formula has a model.
func hasModel(f api.Formula) bool {
	m := make([]bool, f.Vars)
	for bits := range 1 << f.Vars {
		for i := range m {
			m[i] = bits>>i&1 == 1
		}
		if first, _ := cnf.First(f, m...); first == -1 {
			return true
		}
	}
	return false
}

// wantResult tells that a result is right. Where clauses are not learned because they are too long, there may be no proof; but what was learned must be implied.
func wantResult(t *testing.T, f api.Formula, x api.Result, model bool, by settings) {
	t.Helper()
	switch {
	case x.Answer == api.Sat && model:
		if first, e := cnf.First(f, x.Model...); first != -1 || e != api.OK {
			t.Fatalf("%v, %v: not the model %v", by, f, x.Model)
		}
	case x.Answer == api.Unsat && !model:
		first, e := rup.Check(f, x.Proof...)
		complete := first == -1 || by.longest < api.MaxClause && first == len(x.Proof)-1
		if !complete || e != api.OK {
			t.Fatalf("%v, %v: the proof %v fails at %d", by, f, x.Proof, first)
		}
		if slices.ContainsFunc(x.Proof, func(c []int) bool { return len(c) > by.longest }) {
			t.Fatalf("%v, %v: a clause of the proof %v is too long", by, f, x.Proof)
		}
	default:
		t.Fatalf("%v, %v: answer %d", by, f, x.Answer)
	}
}

// P7.1, P7.3
func TestSettings(t *testing.T) {
	r := rand.New(rand.NewPCG(7, 7))
	for range 1000 {
		f := someFormula(r)
		model := hasModel(f)
		for _, by := range someSettings() {
			x, e := solved(f, 0, by)
			if e != api.OK {
				t.Fatalf("%v, %v: error %d", by, f, e)
			}
			wantResult(t, f, x, model, by)
		}
	}
}
