package term_test

import (
	"math"
	"math/rand/v2"
	"slices"
	"testing"

	"weephole/api"
	"weephole/term"
)

// The examples of the chapter.

func TestExample(t *testing.T) {
	g := made(t, 2, 4)
	for i, x := range []int{number(t, g, 7), number(t, g, 3), variable(t, g, 0), app(t, g, api.OpAdd, 1, 0), app(t, g, api.OpAdd, 0, 1)} {
		if want := []int{0, 0, 1, 2, 3}[i]; x != want {
			t.Errorf("call %d: %d, want %d", i, x, want)
		}
	}
	x, e := g.Var(1)
	wantError(t, "Var(1)", x, e, api.ErrBudget)
	if x := variable(t, g, 0); x != 1 || g.Len() != 4 {
		t.Errorf("Var(0), Len: %d, %d, want 1, 4", x, g.Len())
	}
	x, e = g.App(api.OpAdd, 1)
	wantError(t, "App(OpAdd, 1)", x, e, api.ErrArg)
	x, e = g.App(api.OpVar, 1)
	wantError(t, "App(OpVar, 1)", x, e, api.ErrArg)
	x, e = g.App(api.OpNot, 4)
	wantError(t, "App(OpNot, 4)", x, e, api.ErrRange)
	x, e = g.App(api.OpIte, 0, 0, 9)
	wantError(t, "App(OpIte, 0, 0, 9)", x, e, api.ErrRange)
	x, e = g.Var(-1)
	wantError(t, "Var(-1)", x, e, api.ErrRange)
	wantNodes(t, g, api.Node{Op: api.OpConst, Num: 3}, api.Node{Op: api.OpVar},
		api.Node{Op: api.OpAdd, A: []int{1, 0}}, api.Node{Op: api.OpAdd, A: []int{0, 1}})
}

// P10.1

func TestNew(t *testing.T) {
	for width := 1; width <= api.MaxWidth; width++ {
		for _, most := range []int{0, 1, 2, 1000, api.MaxNodes - 1, api.MaxNodes} {
			g := made(t, width, most)
			if g.Width() != width {
				t.Errorf("Width of New(%d, %d): %d", width, most, g.Width())
			}
			wantNodes(t, g)
		}
	}
}

func TestNewRange(t *testing.T) {
	refused := func(width, most int) {
		if g, e := term.New(width, most); g != nil || e != api.ErrRange {
			t.Errorf("New(%d, %d): %v, error %d", width, most, g, e)
		}
	}
	noWidths := []int{math.MinInt, -64, -1, 0, 65, 66, 128, 256 + 8, 1<<32 + 1, math.MaxInt}
	noRooms := []int{math.MinInt, -api.MaxNodes, -1, api.MaxNodes + 1, 2 * api.MaxNodes, 1 << 32, math.MaxInt}
	for _, width := range noWidths {
		for _, most := range append([]int{0, 1, api.MaxNodes}, noRooms...) {
			refused(width, most)
		}
	}
	for _, most := range noRooms {
		for _, width := range []int{1, 2, 32, 64} {
			refused(width, most)
		}
	}
}

func TestWidthStays(t *testing.T) {
	g := made(t, 5, 2)
	number(t, g, 77)
	variable(t, g, 77)
	g.Var(78)
	if g.Width() != 5 || g.Copy().Width() != 5 {
		t.Errorf("Width: %d, of the copy %d, want 5", g.Width(), g.Copy().Width())
	}
}

func TestGraphsAreApart(t *testing.T) {
	g, h := made(t, 8, 2), made(t, 8, 2)
	variable(t, g, 1)
	number(t, g, 1)
	wantNodes(t, h)
	number(t, h, 9)
	wantNodes(t, g, api.Node{Op: api.OpVar, Num: 1}, api.Node{Op: api.OpConst, Num: 1})
	wantNodes(t, h, api.Node{Op: api.OpConst, Num: 9})
}

// R5, and what P10.1 to P10.5 say of nil.

func TestNil(t *testing.T) {
	var g *term.Graph
	if g.Width() != 0 || g.Len() != 0 || g.Copy() != nil {
		t.Errorf("of nil: %d, %d, %v", g.Width(), g.Len(), g.Copy())
	}
	for _, v := range []uint64{0, 1, math.MaxUint64} {
		x, e := g.Const(v)
		wantError(t, "Const of nil", x, e, api.ErrNil)
	}
	for _, n := range []int{-1, 0, 1, maxVar + 1} {
		x, e := g.Var(n)
		wantError(t, "Var of nil", x, e, api.ErrNil)
		if n, e := g.Node(n); !sameNode(n, api.Node{}) || e != api.ErrNil {
			t.Errorf("Node of nil: %v, error %d", n, e)
		}
	}
	for o := range math.MaxUint8 + 1 {
		for _, args := range [][]int{nil, {0}, {0, 0}, {-1, 5}, {0, 0, 0}} {
			x, e := g.App(uint8(o), args...)
			wantError(t, "App of nil", x, e, api.ErrNil)
		}
	}
}

// P10.2

func TestConst(t *testing.T) {
	for width := 1; width <= api.MaxWidth; width++ {
		g, p := made(t, width, 0), &plain{width: width, room: api.MaxNodes}
		var list []uint64
		for bit := range 64 {
			list = append(list, 1<<bit-1, 1<<bit, 1<<bit+1, math.MaxUint64-1<<bit)
		}
		for _, v := range append(list, math.MaxUint64) {
			want, _ := p.number(v)
			if x := number(t, g, v); x != want {
				t.Fatalf("Const(%d), width %d: %d, want %d", v, width, x, want)
			}
		}
		wantNodes(t, g, p.nodes...)
	}
}

func TestConstModulo(t *testing.T) {
	g := made(t, 4, 0)
	for v := range uint64(100) {
		if x := number(t, g, v); x != int(v%16) {
			t.Errorf("Const(%d): %d, want %d", v, x, v%16)
		}
	}
	if g.Len() != 16 {
		t.Errorf("Len: %d, want 16", g.Len())
	}
}

func TestVar(t *testing.T) {
	for _, width := range []int{1, 2, 21, 22, 64} {
		g := made(t, width, 0)
		numbers := []int{0, 1, 2, 3, 4, 1000, maxVar / 2, maxVar - 1, maxVar}
		var want []api.Node
		for i, n := range numbers {
			if x := variable(t, g, n); x != i {
				t.Errorf("Var(%d): %d, want %d", n, x, i)
			}
			want = append(want, api.Node{Op: api.OpVar, Num: uint64(n)}) // not modulo 2^W
		}
		for i, n := range numbers {
			if x := variable(t, g, n); x != i {
				t.Errorf("Var(%d) again: %d, want %d", n, x, i)
			}
		}
		wantNodes(t, g, want...)
	}
}

func TestVarRange(t *testing.T) {
	g := made(t, 8, 0)
	variable(t, g, 0)
	for _, n := range []int{math.MinInt, math.MinInt32, -2, -1, maxVar + 1, maxVar + 2, 1 << 23, 1 << 32, 1<<32 + 1, math.MaxInt} {
		x, e := g.Var(n)
		wantError(t, "Var", x, e, api.ErrRange)
	}
	wantNodes(t, g, api.Node{Op: api.OpVar})
}

func TestConstIsNoVar(t *testing.T) {
	g := made(t, 8, 0)
	var want []api.Node
	for n := range 20 {
		if x, y := number(t, g, uint64(n)), variable(t, g, n); x != 2*n || y != 2*n+1 {
			t.Errorf("Const, Var of %d: %d, %d", n, x, y)
		}
		want = append(want, api.Node{Op: api.OpConst, Num: uint64(n)}, api.Node{Op: api.OpVar, Num: uint64(n)})
	}
	wantNodes(t, g, want...)
}

// P10.3

// some returns a graph of the variables 0, 1 and 2.
func some(t *testing.T, most int) (*term.Graph, []api.Node) {
	t.Helper()
	g := made(t, 8, most)
	var nodes []api.Node
	for n := range 3 {
		variable(t, g, n)
		nodes = append(nodes, api.Node{Op: api.OpVar, Num: uint64(n)})
	}
	return g, nodes
}

func TestApp(t *testing.T) {
	g, want := some(t, 0)
	for o := api.OpNot; o <= api.OpIte; o++ {
		args := []int{2, 0, 1}[:arity(o)]
		if x := app(t, g, o, args...); x != len(want) {
			t.Errorf("App(%d, %d): %d, want %d", o, args, x, len(want))
		}
		want = append(want, api.Node{Op: o, A: slices.Clone(args)})
	}
	wantNodes(t, g, want...)
}

func TestAppArg(t *testing.T) {
	g, nodes := some(t, 0)
	for o := range math.MaxUint8 + 1 {
		for n := range 9 {
			if arity(uint8(o)) == n && n > 0 {
				continue
			}
			args := make([]int, n)
			x, e := g.App(uint8(o), args...)
			wantError(t, "App", x, e, api.ErrArg)
			for i := range args {
				args[i] = -1
			}
			x, e = g.App(uint8(o), args...)
			wantError(t, "App of no terms", x, e, api.ErrArg)
		}
	}
	x, e := g.App(api.OpAdd, make([]int, 1<<16)...)
	wantError(t, "App of many", x, e, api.ErrArg)
	wantNodes(t, g, nodes...)
}

func TestAppRange(t *testing.T) {
	g, nodes := some(t, 0)
	for o := api.OpNot; o <= api.OpIte; o++ {
		for i := range arity(o) {
			for _, bad := range noTerms(g.Len()) {
				args := []int{0, 1, 2}[:arity(o)]
				args[i] = bad
				x, e := g.App(o, args...)
				wantError(t, "App", x, e, api.ErrRange)
			}
		}
	}
	wantNodes(t, g, nodes...)
	empty := made(t, 8, 0)
	x, e := empty.App(api.OpNot, 0)
	wantError(t, "App(OpNot, 0) of no nodes", x, e, api.ErrRange)
}

// The node that would come next is no term yet, also not for itself.
func TestAppOfItself(t *testing.T) {
	g, nodes := some(t, 0)
	x, e := g.App(api.OpNeg, 3)
	wantError(t, "App(OpNeg, 3)", x, e, api.ErrRange)
	if x := app(t, g, api.OpNeg, 2); x != 3 {
		t.Errorf("App(OpNeg, 2): %d, want 3", x)
	}
	if x := app(t, g, api.OpNeg, 3); x != 4 {
		t.Errorf("App(OpNeg, 3): %d, want 4", x)
	}
	wantNodes(t, g, append(nodes, api.Node{Op: api.OpNeg, A: []int{2}}, api.Node{Op: api.OpNeg, A: []int{3}})...)
}

func TestAppErrorsBeforeBudget(t *testing.T) {
	g, nodes := some(t, 3)
	x, e := g.App(api.OpAdd, 0, 1)
	wantError(t, "App(OpAdd, 0, 1)", x, e, api.ErrBudget)
	x, e = g.App(api.OpAdd, 0, 3)
	wantError(t, "App(OpAdd, 0, 3)", x, e, api.ErrRange)
	x, e = g.App(api.OpAdd, 0)
	wantError(t, "App(OpAdd, 0)", x, e, api.ErrArg)
	x, e = g.App(api.OpConst)
	wantError(t, "App(OpConst)", x, e, api.ErrArg)
	x, e = g.Var(maxVar + 1)
	wantError(t, "Var(2^22)", x, e, api.ErrRange)
	wantNodes(t, g, nodes...)
}

func TestNothingIsSimplifiedOrOrdered(t *testing.T) {
	g := made(t, 8, 0)
	want := []api.Node{{Op: api.OpConst}, {Op: api.OpConst, Num: 1}, {Op: api.OpVar}}
	number(t, g, 0)
	number(t, g, 1)
	variable(t, g, 0)
	asked := func(o uint8, args ...int) {
		want = append(want, api.Node{Op: o, A: args})
		if x := app(t, g, o, args...); x != len(want)-1 {
			t.Errorf("App(%d, %d): %d, want %d", o, args, x, len(want)-1)
		}
	}
	for o := api.OpNot; o <= api.OpIte; o++ {
		for a := range 3 {
			switch arity(o) {
			case 1:
				asked(o, a)
			case 2:
				asked(o, a, 0)
				asked(o, a, 1)
				asked(o, a, 2)
			case 3:
				asked(o, a, 1, 2)
				asked(o, a, 2, 1)
				asked(o, a, 2, 2)
			}
		}
	}
	asked(api.OpNot, app(t, g, api.OpNot, 2))
	wantNodes(t, g, want...)
}

// R3

func TestAppKeepsNoArguments(t *testing.T) {
	g, nodes := some(t, 0)
	args := []int{0, 1, 2, 7}
	x := app(t, g, api.OpIte, args[:3]...)
	if !slices.Equal(args, []int{0, 1, 2, 7}) {
		t.Errorf("arguments were changed: %d", args)
	}
	args[0], args[1], args[2] = 2, 2, 2
	wantNodes(t, g, append(nodes, api.Node{Op: api.OpIte, A: []int{0, 1, 2}})...)
	if y := app(t, g, api.OpIte, 0, 1, 2); y != x {
		t.Errorf("asked again: %d, want %d", y, x)
	}
}

// P10.4

func TestNodeSharesNothing(t *testing.T) {
	g, nodes := some(t, 0)
	for _, o := range []uint8{api.OpNot, api.OpSub, api.OpIte} {
		args := []int{1, 2, 0}[:arity(o)]
		x := app(t, g, o, args...)
		nodes = append(nodes, api.Node{Op: o, A: args})
		n, _ := g.Node(x)
		other, _ := g.Node(x)
		for i := range n.A {
			n.A[i] = 9
		}
		_ = append(n.A[:0], 8)
		if !sameNode(other, nodes[x]) {
			t.Errorf("Node(%d) changed with an earlier result: %v", x, other)
		}
		wantNodes(t, g, nodes...)
		if y := app(t, g, o, args...); y != x {
			t.Errorf("App(%d, %d): %d, want %d", o, args, y, x)
		}
	}
}

// P10.5, P10.10

func TestCopyOfNoNodes(t *testing.T) {
	g := made(t, 3, 1)
	c := g.Copy()
	wantNodes(t, c)
	if x := number(t, c, 15); x != 0 {
		t.Errorf("Const(15): %d", x)
	}
	wantNodes(t, c, api.Node{Op: api.OpConst, Num: 7})
	wantNodes(t, g)
	x, e := c.Var(0)
	wantError(t, "Var(0)", x, e, api.ErrBudget)
	if x := variable(t, g, 0); x != 0 {
		t.Errorf("Var(0): %d", x)
	}
	wantNodes(t, g, api.Node{Op: api.OpVar})
}

func TestCopyIsIndependent(t *testing.T) {
	for used := range 9 { // for any room that the slice of the nodes may have left
		g, want := made(t, 8, 0), []api.Node{}
		for n := range used {
			variable(t, g, n)
			want = append(want, api.Node{Op: api.OpVar, Num: uint64(n)})
		}
		c := g.Copy()
		x, y := number(t, g, 100), number(t, c, 200)
		if x != used || y != used {
			t.Errorf("appended to the graph, its copy: %d, %d, want %d", x, y, used)
		}
		wantNodes(t, g, append(slices.Clone(want), api.Node{Op: api.OpConst, Num: 100})...)
		wantNodes(t, c, append(slices.Clone(want), api.Node{Op: api.OpConst, Num: 200})...)
		if x := number(t, c, 100); x != used+1 {
			t.Errorf("Const(100) of the copy: %d, want %d", x, used+1)
		}
		if x := number(t, g, 200); x != used+1 {
			t.Errorf("Const(200) of the graph: %d, want %d", x, used+1)
		}
	}
}

func TestCopyOfFullGraph(t *testing.T) {
	g, nodes := some(t, 3)
	c := g.Copy().Copy()
	wantNodes(t, c, nodes...)
	x, e := c.Const(0)
	wantError(t, "Const(0)", x, e, api.ErrBudget)
	for n := range 3 {
		if x := variable(t, c, n); x != n {
			t.Errorf("Var(%d): %d", n, x)
		}
	}
}

// P10.1, P10.9

func TestRoom(t *testing.T) {
	for room := 1; room <= 12; room++ {
		g := made(t, 8, room)
		for n := range room {
			if x := variable(t, g, n); x != n {
				t.Errorf("Var(%d): %d", n, x)
			}
		}
		x, e := g.Var(room)
		wantError(t, "Var", x, e, api.ErrBudget)
		x, e = g.Const(0)
		wantError(t, "Const", x, e, api.ErrBudget)
		x, e = g.App(api.OpNot, 0)
		wantError(t, "App", x, e, api.ErrBudget)
		for n := range room {
			if x := variable(t, g, n); x != n {
				t.Errorf("Var(%d) of a full graph: %d", n, x)
			}
		}
		if g.Len() != room {
			t.Errorf("Len: %d, want %d", g.Len(), room)
		}
	}
}

func TestGreatestRoom(t *testing.T) {
	for _, most := range []int{0, api.MaxNodes} {
		g := made(t, 8, most)
		last := variable(t, g, 0)
		for range api.MaxNodes - 1 {
			last = app(t, g, api.OpNot, last)
		}
		x, e := g.App(api.OpNot, last)
		wantError(t, "App", x, e, api.ErrBudget)
		for x := range api.MaxNodes - 1 {
			if y := app(t, g, api.OpNot, x); y != x+1 {
				t.Fatalf("App(OpNot, %d) of a full graph: %d", x, y)
			}
			if n, e := g.Node(x + 1); !sameNode(n, api.Node{Op: api.OpNot, A: []int{x}}) || e != api.OK {
				t.Fatalf("Node(%d): %v, error %d", x+1, n, e)
			}
		}
		if g.Len() != api.MaxNodes {
			t.Errorf("Len: %d", g.Len())
		}
	}
}

// P10.6 to P10.10, by calls of all kinds held against a graph that is searched from end to end.

// pair is a graph and what it must be like.
type pair struct {
	g *term.Graph
	p *plain
}

// call makes the same call to both.
func (b pair) call(r *rand.Rand) (x int, e api.Errno, want int, err api.Errno) {
	switch r.IntN(4) {
	case 0:
		v := r.Uint64() >> r.IntN(64)
		x, e = b.g.Const(v)
		want, err = b.p.number(v)
	case 1:
		n := r.IntN(6) - 1
		x, e = b.g.Var(n)
		want, err = b.p.variable(n)
	default:
		o := uint8(r.IntN(int(api.OpIte) + 2))
		args := make([]int, arity(o))
		if r.IntN(10) == 0 {
			args = make([]int, r.IntN(5))
		}
		for i := range args {
			args[i] = r.IntN(len(b.p.nodes) + 1)
			if r.IntN(30) == 0 {
				args[i] = -args[i]
			}
		}
		x, e = b.g.App(o, args...)
		want, err = b.p.app(o, args...)
	}
	return x, e, want, err
}

// step makes a call and tells what becomes of the graph.
func (b pair) step(t *testing.T, r *rand.Rand) {
	t.Helper()
	before := b.g.Len()
	x, e, want, err := b.call(r)
	if x != want || e != err {
		t.Fatalf("a call to a graph of %d nodes: %d, error %d, want %d, error %d", before, x, e, want, err)
	}
	grown := b.g.Len() - before
	if isNew := e == api.OK && x == before; isNew != (grown == 1) || !isNew && grown != 0 {
		t.Fatalf("the result %d, error %d: Len grew from %d to %d", x, e, before, b.g.Len())
	}
	wantNodes(t, b.g, b.p.nodes...)
}

// wantInvariants tells what holds of every graph.
func (b pair) wantInvariants(t *testing.T) {
	t.Helper()
	if b.g.Len() > b.p.room {
		t.Fatalf("%d nodes in a room of %d", b.g.Len(), b.p.room)
	}
	for x := range b.g.Len() {
		n, _ := b.g.Node(x)
		for y := range x {
			if m, _ := b.g.Node(y); sameNode(n, m) {
				t.Fatalf("the terms %d and %d have the same node %v", y, x, n)
			}
		}
		for _, a := range n.A {
			if a < 0 || a >= x {
				t.Fatalf("the node %d has the argument %d", x, a)
			}
		}
		if again := b.askAgain(t, n); again != x {
			t.Fatalf("the node %v, asked for again: %d, want %d", n, again, x)
		}
	}
	wantNodes(t, b.g, b.p.nodes...)
}

// askAgain asks for a node that is there.
func (b pair) askAgain(t *testing.T, n api.Node) int {
	t.Helper()
	switch n.Op {
	case api.OpConst:
		return number(t, b.g, n.Num)
	case api.OpVar:
		return variable(t, b.g, int(n.Num))
	}
	return app(t, b.g, n.Op, n.A...)
}

func TestAnyCalls(t *testing.T) {
	r := rand.New(rand.NewPCG(10, 1))
	for range 300 {
		width, room := 1+r.IntN(api.MaxWidth), 1+r.IntN(40)
		b := pair{made(t, width, room), &plain{width: width, room: room}}
		for range 120 {
			b.step(t, r)
		}
		b.wantInvariants(t)
	}
}

func TestAnyCallsWithCopies(t *testing.T) {
	r := rand.New(rand.NewPCG(10, 2))
	for range 60 {
		width, room := 1+r.IntN(api.MaxWidth), 1+r.IntN(60)
		all := []pair{{made(t, width, room), &plain{width: width, room: room}}}
		for range 300 {
			b := all[r.IntN(len(all))]
			if len(all) < 5 && r.IntN(20) == 0 {
				all = append(all, pair{b.g.Copy(), b.p.copied()})
			}
			b.step(t, r)
		}
		for _, b := range all {
			b.wantInvariants(t)
		}
	}
}

// R6

func TestSameCallsSameResults(t *testing.T) {
	b := pair{made(t, 8, 30), &plain{width: 8, room: 30}}
	c := pair{made(t, 8, 30), &plain{width: 8, room: 30}}
	r, s := rand.New(rand.NewPCG(10, 3)), rand.New(rand.NewPCG(10, 3))
	for range 200 {
		x, e, _, _ := b.call(r)
		y, f, _, _ := c.call(s)
		if x != y || e != f {
			t.Fatalf("the same calls: %d, error %d, and %d, error %d", x, e, y, f)
		}
	}
	wantNodes(t, c.g, b.p.nodes...)
}

// R1: not even a graph that no package has returned makes a call panic.
func TestGraphWithoutNew(t *testing.T) {
	g := new(term.Graph)
	g.Const(1)
	g.Var(1)
	g.App(api.OpNot, 0)
	wantNodes(t, g)
	wantNodes(t, g.Copy())
}
