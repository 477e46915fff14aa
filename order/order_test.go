package order_test

import (
	"cmp"
	"math"
	"math/rand/v2"
	"slices"
	"testing"

	"weephole/api"
	"weephole/order"
)

const (
	maxStep     = 1 << 40
	maxActivity = 1 << 60
)

// made returns a heap of n variables.
func made(t *testing.T, n int) *order.Heap {
	t.Helper()
	h, e := order.New(n)
	if e != api.OK || h == nil {
		t.Fatalf("New(%d): %v, error %d", n, h, e)
	}
	return h
}

// bump bumps a variable, which must not be refused.
func bump(t *testing.T, h *order.Heap, v, by int) {
	t.Helper()
	if e := h.Bump(v, by); e != api.OK {
		t.Fatalf("Bump(%d, %d): error %d", v, by, e)
	}
}

// push pushes variables, which must not be refused.
func push(t *testing.T, h *order.Heap, vs ...int) {
	t.Helper()
	for _, v := range vs {
		if e := h.Push(v); e != api.OK {
			t.Fatalf("Push(%d): error %d", v, e)
		}
	}
}

// pop pops a variable, which must be there.
func pop(t *testing.T, h *order.Heap) int {
	t.Helper()
	v, e := h.Pop()
	if e != api.OK {
		t.Fatalf("Pop: %d, error %d", v, e)
	}
	return v
}

// wantPops pops until the heap is empty.
func wantPops(t *testing.T, h *order.Heap, want ...int) {
	t.Helper()
	var got []int
	for h.Len() > 0 && len(got) <= len(want) {
		got = append(got, pop(t, h))
	}
	if !slices.Equal(got, want) {
		t.Fatalf("popped: %v, want %v", got, want)
	}
	if v, e := h.Pop(); v != 0 || e != api.ErrNone {
		t.Fatalf("Pop of nothing: %d, error %d", v, e)
	}
}

// wantIn tells which of n variables are in the heap.
func wantIn(t *testing.T, h *order.Heap, n int, want ...int) {
	t.Helper()
	if h.Len() != len(want) {
		t.Fatalf("Len: %d, want %d", h.Len(), len(want))
	}
	for v := -1; v <= n+2; v++ {
		if h.Has(v) != slices.Contains(want, v) {
			t.Fatalf("Has(%d): %v, want %v in the heap", v, h.Has(v), want)
		}
	}
}

// plain is a heap that is searched from end to end.
type plain struct {
	activity []int // by variable, from 1 on
	in       []bool
}

func newPlain(n int) *plain {
	p := &plain{make([]int, n+1), make([]bool, n+1)}
	for v := 1; v <= n; v++ {
		p.in[v] = true
	}
	return p
}

func (p *plain) variable(v int) bool {
	return v >= 1 && v < len(p.in)
}

func (p *plain) bump(v, by int) api.Errno {
	if !p.variable(v) || by < 0 || by > maxStep || p.activity[v]+by > maxActivity {
		return api.ErrRange
	}
	p.activity[v] += by
	return api.OK
}

func (p *plain) pop() (int, api.Errno) {
	best := 0
	for v := 1; v < len(p.in); v++ {
		if p.in[v] && (best == 0 || p.activity[v] > p.activity[best]) {
			best = v
		}
	}
	if best == 0 {
		return 0, api.ErrNone
	}
	p.in[best] = false
	return best, api.OK
}

func (p *plain) push(v int) api.Errno {
	if !p.variable(v) {
		return api.ErrRange
	}
	p.in[v] = true
	return api.OK
}

func (p *plain) copied() *plain {
	return &plain{slices.Clone(p.activity), slices.Clone(p.in)}
}

// inside returns the variables that are in the heap, in ascending order.
func (p *plain) inside() []int {
	var vs []int
	for v, in := range p.in {
		if in {
			vs = append(vs, v)
		}
	}
	return vs
}

// same tells that a heap has the variables of a plain one.
func same(t *testing.T, h *order.Heap, p *plain) {
	t.Helper()
	wantIn(t, h, len(p.in)-1, p.inside()...)
}

// sameToEnd tells that a heap has the variables and the activities of a plain one: all of them are pushed and popped from copies.
func sameToEnd(t *testing.T, h *order.Heap, p *plain) {
	t.Helper()
	same(t, h, p)
	h, p = h.Copy(), p.copied()
	for v := 1; v < len(p.in); v++ {
		push(t, h, v)
		p.push(v)
	}
	for range p.inside() {
		want, _ := p.pop()
		if got := pop(t, h); got != want {
			t.Fatalf("Pop: %d, want %d", got, want)
		}
	}
	wantPops(t, h)
}

// P6.1

func TestNew(t *testing.T) {
	for n := range 6 {
		h := made(t, n)
		want := []int{1, 2, 3, 4, 5}[:n]
		wantIn(t, h, n, want...)
		wantPops(t, h, want...)
	}
}

func TestNewOfMaxVars(t *testing.T) {
	h := made(t, api.MaxVars)
	if h.Len() != api.MaxVars || !h.Has(1) || !h.Has(api.MaxVars) || h.Has(api.MaxVars+1) {
		t.Fatal("New(MaxVars):", h.Len())
	}
	bump(t, h, api.MaxVars, 1)
	if v := pop(t, h); v != api.MaxVars {
		t.Fatal("Pop:", v)
	}
}

func TestNewOutOfRange(t *testing.T) {
	for _, n := range []int{-1, -2, math.MinInt, api.MaxVars + 1, 2 * api.MaxVars, 1 << 32, math.MaxInt} {
		if h, e := order.New(n); h != nil || e != api.ErrRange {
			t.Errorf("New(%d): %v, error %d", n, h, e)
		}
	}
}

func TestNewIsIndependent(t *testing.T) {
	a, b := made(t, 3), made(t, 3)
	bump(t, a, 3, 1)
	pop(t, a)
	wantIn(t, b, 3, 1, 2, 3)
	wantPops(t, b, 1, 2, 3)
	wantPops(t, a, 1, 2)
}

// P6.2

func TestBumpExamples(t *testing.T) {
	h := made(t, 3)
	bump(t, h, 3, 1)
	bump(t, h, 2, 1)
	wantPops(t, h, 2, 3, 1)

	h = made(t, 3)
	for _, c := range [][2]int{{4, 1}, {0, 1}, {1, -1}} {
		if e := h.Bump(c[0], c[1]); e != api.ErrRange {
			t.Errorf("Bump%v: error %d", c, e)
		}
	}
	if e := h.Push(4); e != api.ErrRange {
		t.Errorf("Push(4): error %d", e)
	}
}

func TestBumpGrows(t *testing.T) {
	h := made(t, 4)
	bump(t, h, 1, 5)
	bump(t, h, 4, 3)
	bump(t, h, 4, 3) // the sum counts, not the last one
	bump(t, h, 3, 0)
	wantPops(t, h, 4, 1, 2, 3)
}

func TestBumpOfWhatIsNotInTheHeap(t *testing.T) {
	h := made(t, 3)
	for want := 1; want <= 3; want++ {
		if v := pop(t, h); v != want {
			t.Fatal("Pop:", v)
		}
		bump(t, h, want, want)
	}
	wantIn(t, h, 3)
	push(t, h, 1, 2, 3)
	wantPops(t, h, 3, 2, 1)
}

func TestBumpRanges(t *testing.T) {
	h := made(t, 3)
	bump(t, h, 2, 7)
	for _, v := range []int{0, -1, -2, 4, 5, math.MinInt, math.MaxInt} {
		for _, by := range []int{0, 1, maxStep, -1, maxStep + 1} {
			if e := h.Bump(v, by); e != api.ErrRange {
				t.Errorf("Bump(%d, %d): error %d", v, by, e)
			}
		}
	}
	for _, by := range []int{-1, -2, -7, -maxStep, math.MinInt, maxStep + 1, 2 * maxStep, maxActivity, maxActivity + 1, math.MaxInt} {
		for v := 1; v <= 3; v++ {
			if e := h.Bump(v, by); e != api.ErrRange {
				t.Errorf("Bump(%d, %d): error %d", v, by, e)
			}
		}
	}
	wantIn(t, h, 3, 1, 2, 3)
	wantPops(t, h, 2, 1, 3) // nothing was added
}

func TestBumpOfNoVariables(t *testing.T) {
	h := made(t, 0)
	for v := -1; v <= 1; v++ {
		if e := h.Bump(v, 1); e != api.ErrRange {
			t.Errorf("Bump(%d, 1): error %d", v, e)
		}
	}
}

func TestBumpBySteps(t *testing.T) {
	h := made(t, 3)
	bump(t, h, 3, maxStep)
	bump(t, h, 2, maxStep-1)
	wantPops(t, h, 3, 2, 1)
	bump(t, h, 2, 1)
	push(t, h, 1, 2, 3)
	wantPops(t, h, 2, 3, 1)
}

// full returns a heap of three variables; the activity of 2 is less than the greatest by short.
func full(t *testing.T, short int) *order.Heap {
	t.Helper()
	h := made(t, 3)
	for range maxActivity/maxStep - 1 {
		bump(t, h, 2, maxStep)
	}
	bump(t, h, 2, maxStep-short)
	return h
}

func TestBumpToTheGreatestActivity(t *testing.T) {
	h := full(t, 0)
	for _, by := range []int{1, 2, maxStep, maxStep + 1, -1} {
		if e := h.Bump(2, by); e != api.ErrRange {
			t.Errorf("Bump(2, %d) of 2^60: error %d", by, e)
		}
	}
	bump(t, h, 2, 0)
	bump(t, h, 3, 1) // others may grow on
	wantPops(t, h, 2, 3, 1)
	if e := h.Bump(2, 1); e != api.ErrRange {
		t.Errorf("Bump(2, 1) of 2^60, popped: error %d", e)
	}
}

func TestBumpNearTheGreatestActivity(t *testing.T) {
	h := full(t, 5)
	for _, by := range []int{6, 7, maxStep} {
		if e := h.Bump(2, by); e != api.ErrRange {
			t.Errorf("Bump(2, %d) of 2^60 - 5: error %d", by, e)
		}
	}
	bump(t, h, 2, 3) // what was refused did not count
	if e := h.Bump(2, 3); e != api.ErrRange {
		t.Errorf("Bump(2, 3) of 2^60 - 2: error %d", e)
	}
	bump(t, h, 2, 2)
	if e := h.Bump(2, 1); e != api.ErrRange {
		t.Errorf("Bump(2, 1) of 2^60: error %d", e)
	}
}

// P6.3

func TestPopOfEqualActivities(t *testing.T) {
	h := made(t, 6)
	for _, v := range []int{6, 4, 2} {
		bump(t, h, v, 9)
	}
	wantPops(t, h, 2, 4, 6, 1, 3, 5)
}

func TestPopOfAllActivities(t *testing.T) {
	const n, most = 5, 3
	for code := range int(math.Pow(most, n)) {
		h, p := made(t, n), newPlain(n)
		for v, rest := 1, code; v <= n; v, rest = v+1, rest/most {
			bump(t, h, v, rest%most)
			p.bump(v, rest%most)
		}
		sameToEnd(t, h, p)
	}
}

func TestPopOfNothing(t *testing.T) {
	for n := range 3 {
		h := made(t, n)
		for range n {
			pop(t, h)
		}
		for range 2 {
			if v, e := h.Pop(); v != 0 || e != api.ErrNone {
				t.Errorf("Pop of nothing of %d: %d, error %d", n, v, e)
			}
		}
		wantIn(t, h, n)
	}
}

// P6.4

func TestPushExample(t *testing.T) {
	h := made(t, 3)
	if v := pop(t, h); v != 1 {
		t.Fatal("Pop:", v)
	}
	bump(t, h, 1, 5)
	if v := pop(t, h); v != 2 {
		t.Fatal("Pop:", v)
	}
	push(t, h, 1, 1)
	if h.Len() != 2 {
		t.Fatal("Len:", h.Len())
	}
	if v := pop(t, h); v != 1 {
		t.Fatal("Pop:", v)
	}
}

func TestPushOfWhatIsThere(t *testing.T) {
	h := made(t, 3)
	bump(t, h, 3, 2)
	push(t, h, 2, 2, 3, 1, 1)
	wantIn(t, h, 3, 1, 2, 3)
	wantPops(t, h, 3, 1, 2)
}

func TestPushRanges(t *testing.T) {
	for n := range 4 {
		h := made(t, n)
		for _, v := range []int{0, -1, -n, n + 1, n + 2, math.MinInt, math.MaxInt} {
			if e := h.Push(v); e != api.ErrRange {
				t.Errorf("Push(%d) of %d: error %d", v, n, e)
			}
		}
		wantIn(t, h, n, []int{1, 2, 3}[:n]...)
	}
}

// P6.5

func TestHasAndLen(t *testing.T) {
	h := made(t, 3)
	pop(t, h)
	wantIn(t, h, 3, 2, 3) // the example: Has(1), Has(2), Has(4)
	for _, v := range []int{math.MinInt, math.MaxInt, -3, 0, 4, api.MaxVars, 1 << 32, 1<<32 + 2} {
		if h.Has(v) {
			t.Errorf("Has(%d): true", v)
		}
	}
	push(t, h, 1)
	wantIn(t, h, 3, 1, 2, 3)
	wantIn(t, made(t, 0), 0)
}

func TestCopyIsEqual(t *testing.T) {
	h := made(t, 5)
	bump(t, h, 4, 2)
	bump(t, h, 2, 1)
	bump(t, h, 5, 1)
	pop(t, h)
	pop(t, h)
	bump(t, h, 2, 8) // 2 and 4 are not in the heap
	c := h.Copy()
	wantIn(t, c, 5, 1, 3, 5)
	wantPops(t, c.Copy(), 5, 1, 3)
	push(t, c, 1, 2, 3, 4, 5)
	wantPops(t, c, 2, 4, 5, 1, 3)
	wantIn(t, h, 5, 1, 3, 5)
	wantPops(t, made(t, 0).Copy())
}

func TestCopyIsIndependent(t *testing.T) {
	changes := map[string]func(*order.Heap){
		"Bump": func(h *order.Heap) { bump(t, h, 1, 100); bump(t, h, 3, 50) },
		"Pop":  func(h *order.Heap) { pop(t, h); pop(t, h) },
		"Push": func(h *order.Heap) { push(t, h, 4) },
		"all":  func(h *order.Heap) { pop(t, h); bump(t, h, 2, 7); push(t, h, 4); pop(t, h); pop(t, h) },
	}
	for name, change := range changes {
		for _, changesCopy := range []bool{false, true} {
			h := made(t, 4)
			bump(t, h, 4, 5)
			bump(t, h, 2, 1)
			pop(t, h)
			changed, other := h, h.Copy()
			if changesCopy {
				changed, other = other, changed
			}
			change(changed)
			t.Run(name, func(t *testing.T) {
				wantIn(t, other, 4, 1, 2, 3)
				push(t, other, 4)
				wantPops(t, other, 4, 2, 1, 3)
			})
		}
	}
}

func TestCopyHasTheGreatestActivity(t *testing.T) {
	c := full(t, 1).Copy()
	if e := c.Bump(2, 2); e != api.ErrRange {
		t.Errorf("Bump(2, 2) of 2^60 - 1: error %d", e)
	}
	bump(t, c, 2, 1)
	if e := c.Bump(2, 1); e != api.ErrRange {
		t.Errorf("Bump(2, 1) of 2^60: error %d", e)
	}
}

func TestNil(t *testing.T) {
	var h *order.Heap
	for _, v := range []int{-1, 0, 1, math.MaxInt} {
		for _, by := range []int{-1, 0, 1, maxStep + 1} {
			if e := h.Bump(v, by); e != api.ErrNil {
				t.Errorf("Bump(%d, %d) of nil: error %d", v, by, e)
			}
		}
		if e := h.Push(v); e != api.ErrNil {
			t.Errorf("Push(%d) of nil: error %d", v, e)
		}
		if h.Has(v) {
			t.Errorf("Has(%d) of nil: true", v)
		}
	}
	if v, e := h.Pop(); v != 0 || e != api.ErrNil {
		t.Errorf("Pop of nil: %d, error %d", v, e)
	}
	if h.Len() != 0 || h.Copy() != nil {
		t.Errorf("Len, Copy of nil: %d, %v", h.Len(), h.Copy())
	}
}

// P6.6

func TestPopsUntilEmpty(t *testing.T) {
	r := rand.New(rand.NewPCG(6, 6))
	for range 300 {
		n := r.IntN(40)
		h, activity := made(t, n), make([]int, n+1)
		for range r.IntN(60) {
			if n > 0 {
				v, by := 1+r.IntN(n), r.IntN(4)
				bump(t, h, v, by)
				activity[v] += by
			}
		}
		var in []int
		for v := 1; v <= n; v++ {
			in = append(in, v)
		}
		for range r.IntN(n + 1) {
			v := pop(t, h)
			in = slices.DeleteFunc(in, func(x int) bool { return x == v })
		}
		var popped []int
		for h.Len() > 0 {
			v := pop(t, h)
			if last := len(popped) - 1; last >= 0 {
				u := popped[last]
				if activity[v] > activity[u] || activity[v] == activity[u] && v < u {
					t.Fatalf("%d of %d after %d of %d", v, activity[v], u, activity[u])
				}
			}
			popped = append(popped, v)
		}
		slices.Sort(popped)
		if !slices.Equal(popped, in) {
			t.Fatalf("popped %v, were in it %v", popped, in)
		}
	}
}

// P6.7

func TestPoppedAndPushedAgain(t *testing.T) {
	r := rand.New(rand.NewPCG(6, 7))
	for range 200 {
		n := 1 + r.IntN(20)
		h := made(t, n)
		for range r.IntN(40) {
			bump(t, h, 1+r.IntN(n), r.IntN(3))
		}
		for h.Len() > 0 {
			v := pop(t, h)
			for range 3 {
				push(t, h, v)
				if u := pop(t, h); u != v {
					t.Fatalf("%d popped and pushed, then %d popped", v, u)
				}
			}
		}
	}
}

// P6.8

func TestOrderOfPushes(t *testing.T) {
	r := rand.New(rand.NewPCG(6, 8))
	for range 200 {
		n := 1 + r.IntN(12)
		h := made(t, n)
		for range r.IntN(20) {
			bump(t, h, 1+r.IntN(n), r.IntN(3))
		}
		var all []int
		for h.Len() > 0 {
			all = append(all, pop(t, h))
		}
		some := r.Perm(n)[:r.IntN(n+1)]
		for i := range some {
			some[i]++
		}
		want := slices.DeleteFunc(slices.Clone(all), func(v int) bool { return !slices.Contains(some, v) })
		for range 4 {
			r.Shuffle(len(some), func(i, j int) { some[i], some[j] = some[j], some[i] })
			c := h.Copy()
			push(t, c, some...)
			wantPops(t, c, want...)
		}
	}
}

func TestOrderOfBumps(t *testing.T) {
	r := rand.New(rand.NewPCG(6, 9))
	for range 200 {
		n := 1 + r.IntN(12)
		var whole, parts [][2]int
		for _, v := range r.Perm(n) {
			a, b := r.IntN(4), r.IntN(4)
			whole = append(whole, [2]int{v + 1, a + b})
			parts = append(parts, [2]int{v + 1, a}, [2]int{v + 1, b})
		}
		h := made(t, n)
		for range r.IntN(n + 1) {
			pop(t, h) // those that are out of the heap are bumped, too
		}
		c := h.Copy()
		for _, b := range whole {
			bump(t, h, b[0], b[1])
		}
		r.Shuffle(len(parts), func(i, j int) { parts[i], parts[j] = parts[j], parts[i] })
		for _, b := range parts {
			bump(t, c, b[0], b[1])
		}
		for range 2 {
			for h.Len() > 0 {
				if v, u := pop(t, h), pop(t, c); v != u {
					t.Fatalf("bumps %v: %d; bumps %v: %d", whole, v, parts, u)
				}
			}
			wantPops(t, c)
			for v := 1; v <= n; v++ {
				push(t, h, v)
				push(t, c, n+1-v)
			}
		}
	}
}

// All promises, and R5: after an error a heap is as before.

// step does one thing with a heap and with a plain one; the results must be the same.
func step(t *testing.T, h *order.Heap, p *plain, what, v, by int) {
	t.Helper()
	switch what {
	case 0:
		if got, want := h.Bump(v, by), p.bump(v, by); got != want {
			t.Fatalf("Bump(%d, %d): error %d, want %d", v, by, got, want)
		}
	case 1:
		got, e := h.Pop()
		if want, f := p.pop(); got != want || e != f {
			t.Fatalf("Pop: %d, error %d, want %d, error %d", got, e, want, f)
		}
	case 2:
		if got, want := h.Push(v), p.push(v); got != want {
			t.Fatalf("Push(%d): error %d, want %d", v, got, want)
		}
	}
}

func TestAllShortSequences(t *testing.T) {
	const n, steps = 3, 5
	calls := [][3]int{{1}, {0, 1, 1}, {0, 2, 1}, {0, 3, 1}, {0, 4, 1}, {2, 1}, {2, 2}, {2, 3}, {2, 0}}
	var follow func(h *order.Heap, p *plain, left int)
	follow = func(h *order.Heap, p *plain, left int) {
		if left == 0 {
			sameToEnd(t, h, p)
			return
		}
		for _, c := range calls {
			h, p := h.Copy(), p.copied()
			step(t, h, p, c[0], c[1], c[2])
			follow(h, p, left-1)
		}
	}
	follow(made(t, n), newPlain(n), steps)
}

func TestRandomSequences(t *testing.T) {
	r := rand.New(rand.NewPCG(6, 10))
	for range 300 {
		n := r.IntN(30)
		h, p := made(t, n), newPlain(n)
		pops := 1 + r.IntN(4)
		for range 200 {
			what, v, by := min(2, r.IntN(2+pops)), r.IntN(n+3)-1, r.IntN(6)-1
			if r.IntN(20) == 0 {
				by = maxStep + r.IntN(3) - 1
			}
			if r.IntN(30) == 0 {
				h, p = h.Copy(), p.copied()
			}
			step(t, h, p, what, v, by)
			same(t, h, p)
		}
		sameToEnd(t, h, p)
	}
}

// R6: heaps that were used in the same way give the same results, whatever others do.

func TestHeapsSideBySide(t *testing.T) {
	const n = 20
	r := rand.New(rand.NewPCG(6, 11))
	a, b, other := made(t, n), made(t, n), made(t, n)
	for range 2000 {
		v, by := 1+r.IntN(n), r.IntN(5)
		bump(t, a, v, by)
		bump(t, other, 1+r.IntN(n), r.IntN(9))
		bump(t, b, v, by)
		va, ea := a.Pop()
		other.Pop()
		vb, eb := b.Pop()
		if va != vb || ea != eb {
			t.Fatalf("Pop: %d, error %d; %d, error %d", va, ea, vb, eb)
		}
		v = 1 + r.IntN(n)
		push(t, a, v)
		push(t, b, v)
	}
}

// R1: heaps of many variables are done with, too.

func TestManyVariables(t *testing.T) {
	const n = 1 << 12
	h := made(t, n)
	want := make([]int, n)
	for i := range want {
		want[i] = i + 1
		bump(t, h, i+1, (i+1)*37%1000)
	}
	slices.SortFunc(want, func(a, b int) int {
		return cmp.Or(b*37%1000-a*37%1000, a-b)
	})
	wantPops(t, h, want...)
}
