package lit_test

import (
	"math"
	"slices"
	"testing"

	"weephole/api"
	"weephole/lit"
)

// clauses calls f with every list of at most size of the numbers. The list is used again for the next call.
func clauses(numbers []int, size int, f func(c []int)) {
	var grow func(c []int)
	grow = func(c []int) {
		f(c)
		if len(c) == size {
			return
		}
		for _, x := range numbers {
			grow(append(c, x))
		}
	}
	grow(make([]int, 0, size))
}

// models calls f with every model of n variables.
func models(n int, f func(m []bool)) {
	for bits := range 1 << n {
		m := make([]bool, n)
		for i := range m {
			m[i] = bits>>i&1 == 1
		}
		f(m)
	}
}

// repeat returns a clause of n times the same number.
func repeat(x, n int) []int {
	return slices.Repeat([]int{x}, n)
}

// samples returns numbers around all borders.
func samples() []int {
	s := []int{math.MinInt, math.MinInt + 1, math.MinInt + 2, math.MaxInt, math.MaxInt - 1, api.MaxVars, -api.MaxVars, api.MaxVars + 1, 1 << 32, -1 << 32}
	for x := -4; x <= 4; x++ {
		s = append(s, x)
	}
	return s
}

// P1.1

func TestCheckNumberOfVariables(t *testing.T) {
	for _, n := range []int{0, 1, 3, api.MaxVars - 1, api.MaxVars} {
		if e := lit.Check(n); e != api.OK {
			t.Errorf("Check(%d) = %d", n, e)
		}
	}
	for _, n := range []int{math.MinInt, -api.MaxVars, -2, -1, api.MaxVars + 1, 1 << 32, math.MaxInt} {
		if e := lit.Check(n); e != api.ErrRange {
			t.Errorf("Check(%d) = %d", n, e)
		}
		if e := lit.Check(n, 1); e != api.ErrRange {
			t.Errorf("Check(%d, 1) = %d", n, e)
		}
	}
}

func TestCheckLiterals(t *testing.T) {
	for _, n := range []int{0, 1, 3, 1000, api.MaxVars} {
		for _, x := range append(samples(), n-1, n, n+1, -n+1, -n, -n-1) {
			want := api.ErrRange
			if x != 0 && -n <= x && x <= n {
				want = api.OK
			}
			if e := lit.Check(n, x); e != want {
				t.Errorf("Check(%d, %d) = %d, want %d", n, x, e, want)
			}
		}
	}
}

func TestCheckLooksAtAllLiterals(t *testing.T) {
	for i := range 4 {
		for _, bad := range []int{0, 4, -4, math.MinInt, math.MaxInt} {
			c := []int{1, -3, 3, 1}
			c[i] = bad
			if e := lit.Check(3, c...); e != api.ErrRange {
				t.Errorf("Check(3, %v) = %d", c, e)
			}
		}
	}
	for _, c := range [][]int{{1, -3}, {2, 2}, {2, -2}, {-1, -1, 1, 3}} {
		if e := lit.Check(3, c...); e != api.OK {
			t.Errorf("Check(3, %v) = %d", c, e)
		}
	}
}

func TestCheckLength(t *testing.T) {
	if e := lit.Check(2, repeat(-2, api.MaxClause)...); e != api.OK {
		t.Error("MaxClause literals:", e)
	}
	if e := lit.Check(2, repeat(-2, api.MaxClause+1)...); e != api.ErrLong {
		t.Error("MaxClause + 1 literals:", e)
	}
	c := repeat(-2, api.MaxClause)
	c[api.MaxClause-1] = 3
	if e := lit.Check(2, c...); e != api.ErrRange {
		t.Error("the last literal of MaxClause is out of range:", e)
	}
}

func TestCheckOrderOfErrors(t *testing.T) {
	long := repeat(0, api.MaxClause+1)
	for n, want := range map[int]api.Errno{-1: api.ErrRange, api.MaxVars + 1: api.ErrRange, 0: api.ErrLong, 2: api.ErrLong} {
		if e := lit.Check(n, long...); e != want {
			t.Errorf("Check(%d, MaxClause + 1 times 0) = %d, want %d", n, e, want)
		}
	}
}

// P1.2

func TestNorm(t *testing.T) {
	const least, most = math.MinInt, math.MaxInt
	for _, x := range []struct {
		c, want []int
		always  bool
	}{
		{[]int{3, -1, 3, 2}, []int{-1, 2, 3}, false},
		{[]int{1, 2, -1}, nil, true},
		{nil, nil, false},
		{[]int{0}, nil, false},
		{[]int{0, 0}, nil, false},
		{[]int{5}, []int{5}, false},
		{[]int{-5, -5, -5}, []int{-5}, false},
		{[]int{0, 2, 0, -1, 0}, []int{-1, 2}, false},
		{[]int{0, 2, 0, -2, 0}, nil, true},
		{[]int{-2, 2}, nil, true},
		{[]int{4, 1, -3, 2, 3}, nil, true},
		{[]int{-10, 9, 1, -2, 10, 9}, nil, true},
		{[]int{-10, 9, 1, -2, -10, 9}, []int{1, -2, 9, -10}, false},
		{[]int{api.MaxVars + 1, 7}, []int{7, api.MaxVars + 1}, false},
		{[]int{least}, []int{least}, false},
		{[]int{least, 0, least}, []int{least}, false},
		{[]int{least, most, 1}, []int{1, most, least}, false},
		{[]int{least, least + 1, -1}, []int{-1, least + 1, least}, false},
		{[]int{most, least, least + 1}, nil, true},
	} {
		got, always := lit.Norm(x.c...)
		if !slices.Equal(got, x.want) || always != x.always {
			t.Errorf("Norm(%v) = %v, %v, want %v, %v", x.c, got, always, x.want, x.always)
		}
	}
}

func TestNormOfAllSmallClauses(t *testing.T) {
	clauses([]int{-3, -2, -1, 0, 1, 2, 3}, 5, func(c []int) {
		var want []int
		always := false
		for v := 1; v <= 3; v++ {
			always = always || slices.Contains(c, v) && slices.Contains(c, -v)
			for _, x := range []int{v, -v} {
				if slices.Contains(c, x) {
					want = append(want, x)
				}
			}
		}
		if always {
			want = nil
		}
		if got, is := lit.Norm(c...); !slices.Equal(got, want) || is != always {
			t.Fatalf("Norm(%v) = %v, %v, want %v, %v", c, got, is, want, always)
		}
	})
}

func TestNormOfLongClause(t *testing.T) {
	const n = 3 * api.MaxClause
	var c, want []int
	for v := 1; v <= n; v++ {
		x := v
		if v%3 == 0 {
			x = -v
		}
		want = append(want, x)
		c = append(c, 0, x)
	}
	slices.Reverse(c)
	if got, always := lit.Norm(append(c, c...)...); !slices.Equal(got, want) || always {
		t.Error("a long clause is wrong:", len(got), always)
	}
	if got, always := lit.Norm(append(c, 3)...); len(got) != 0 || !always {
		t.Error("a long clause that always holds:", len(got), always)
	}
}

// P1.3

func TestHolds(t *testing.T) {
	m := []bool{false, true}
	for _, x := range []struct {
		m    []bool
		c    []int
		want bool
	}{
		{m, []int{-1}, true},
		{m, []int{1}, false},
		{m, []int{2}, true},
		{m, []int{-2}, false},
		{m, []int{1, 2}, true},
		{m, []int{1, -2}, false},
		{m, []int{1, -1}, true},
		{m, []int{3, -3}, false},
		{m, []int{3, 2}, true},
		{m, nil, false},
		{m, []int{0}, false},
		{m, []int{0, 1, 0, -2}, false},
		{m, []int{0, 3, -1}, true},
		{m, []int{math.MinInt, math.MinInt + 1, math.MaxInt, 1 << 32, -1 << 32}, false},
		{m, []int{math.MinInt, math.MaxInt, -1}, true},
		{m, repeat(1, api.MaxClause+1), false},
		{m, append(repeat(1, api.MaxClause+1), 2), true},
		{nil, nil, false},
		{nil, []int{1, -1, 0, math.MinInt}, false},
	} {
		if got := lit.Holds(x.m, x.c...); got != x.want {
			t.Errorf("Holds(%v, %v) = %v", x.m, x.c, got)
		}
	}
}

func TestHoldsInLargeModel(t *testing.T) {
	m := make([]bool, api.MaxVars+1)
	m[api.MaxVars-1] = true
	for x, want := range map[int]bool{api.MaxVars: true, -api.MaxVars: false, api.MaxVars + 1: false, -api.MaxVars - 1: true, api.MaxVars + 2: false, -api.MaxVars - 2: false} {
		if got := lit.Holds(m, x); got != want {
			t.Errorf("Holds of %d = %v", x, got)
		}
	}
}

// P1.4

func TestLess(t *testing.T) {
	const least, most = math.MinInt, math.MaxInt
	for _, x := range []struct {
		a, b int
		want bool
	}{
		{1, -1, true},
		{-1, 1, false},
		{-1, 2, true},
		{2, -1, false},
		{1, -2, true},
		{-2, 1, false},
		{-3, -4, true},
		{-4, -3, false},
		{2, 2, false},
		{-2, -2, false},
		{-2, 2, false},
		{0, 0, false},
		{0, 1, true},
		{0, -1, true},
		{1, 0, false},
		{-1, 0, false},
		{least, least, false},
		{least, 0, false},
		{0, least, true},
		{least, most, false},
		{most, least, true},
		{least + 1, least, true},
		{least, least + 1, false},
		{most, least + 1, true},
		{least + 1, most, false},
	} {
		if got := lit.Less(x.a, x.b); got != x.want {
			t.Errorf("Less(%d, %d) = %v", x.a, x.b, got)
		}
	}
}

// P1.5

func TestNormOfNorm(t *testing.T) {
	clauses([]int{math.MinInt, -2, -1, 0, 1, 2, math.MaxInt}, 4, func(c []int) {
		once, always := lit.Norm(c...)
		twice, still := lit.Norm(once...)
		if !slices.Equal(once, twice) || still {
			t.Fatalf("Norm(%v) = %v, %v, and Norm of it %v, %v", c, once, always, twice, still)
		}
	})
}

func TestNormOfOtherOrderAndNumber(t *testing.T) {
	clauses([]int{math.MinInt, -2, -1, 0, 1, 2, math.MaxInt}, 4, func(c []int) {
		want, always := lit.Norm(c...)
		back := slices.Clone(c)
		slices.Reverse(back)
		high := slices.Clone(c)
		slices.Sort(high)
		for _, d := range [][]int{back, high, slices.Concat(c, c), slices.Concat(high, c, back)} {
			if got, is := lit.Norm(d...); !slices.Equal(got, want) || is != always {
				t.Fatalf("Norm(%v) = %v, %v, but Norm(%v) = %v, %v", c, want, always, d, got, is)
			}
		}
	})
}

// P1.6

func TestNormHoldsAsItsClause(t *testing.T) {
	clauses([]int{-3, -2, -1, 1, 2, 3}, 4, func(c []int) {
		norm, always := lit.Norm(c...)
		models(3, func(m []bool) {
			if lit.Holds(m, c...) != (always || lit.Holds(m, norm...)) {
				t.Fatalf("%v holds in %v: %v, but Norm returns %v, %v", c, m, lit.Holds(m, c...), norm, always)
			}
			if len(norm) == 0 && !always && lit.Holds(m, c...) {
				t.Fatalf("%v holds in %v", c, m)
			}
		})
	})
}

// P1.7

func TestLiteralAndNegative(t *testing.T) {
	for n := range 4 {
		models(n, func(m []bool) {
			for v := 1; v <= n+2; v++ {
				plus, minus := lit.Holds(m, v), lit.Holds(m, -v)
				if plus && minus || (plus || minus) != (v <= n) {
					t.Errorf("in %v: %d %v, %d %v", m, v, plus, -v, minus)
				}
			}
		})
	}
}

// P1.8

func TestLessIsStrictOrder(t *testing.T) {
	all := samples()
	for _, a := range all {
		for _, b := range all {
			if a == b && lit.Less(a, b) || a != b && lit.Less(a, b) == lit.Less(b, a) {
				t.Errorf("Less(%d, %d) = %v, Less(%d, %d) = %v", a, b, lit.Less(a, b), b, a, lit.Less(b, a))
			}
			for _, c := range all {
				if lit.Less(a, b) && lit.Less(b, c) && !lit.Less(a, c) {
					t.Errorf("%d before %d before %d", a, b, c)
				}
			}
		}
	}
}

// R3

func TestArgumentsStay(t *testing.T) {
	for _, c := range [][]int{{3, -1, 3, 2}, {2, 0, 1, -2}, {0, math.MinInt, 5, 5}, {-1, 2, 3}} {
		m := []bool{true, false, true}
		room := append(slices.Clone(c), 9, 9, 9)
		arg := room[:len(c)]
		lit.Check(3, arg...)
		lit.Holds(m, arg...)
		norm, _ := lit.Norm(arg...)
		for i := range norm {
			norm[i] = 77
		}
		_ = append(norm, 78, 79)
		if !slices.Equal(room, append(slices.Clone(c), 9, 9, 9)) || !slices.Equal(m, []bool{true, false, true}) {
			t.Error("changed:", c, room, m)
		}
	}
}

func TestResultsShareNoMemory(t *testing.T) {
	c := []int{-1, 2, 3}
	a, _ := lit.Norm(c...)
	b, _ := lit.Norm(c...)
	a[0], a[1], a[2] = 7, 8, 9
	c[0] = 5
	if !slices.Equal(b, []int{-1, 2, 3}) {
		t.Error("a result changed:", b)
	}
	short, _ := lit.Norm(1, 1, 2, 2)
	if cap(short) != len(short) {
		t.Error("a result has room for what was cut off:", len(short), cap(short))
	}
}
