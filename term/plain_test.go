package term_test

import (
	"math"
	"math/big"
	"slices"
	"testing"

	"weephole/api"
	"weephole/term"
)

// maxVar is the greatest number of a variable.
const maxVar = 1<<22 - 1

// made returns a graph without nodes.
func made(t *testing.T, width, most int) *term.Graph {
	t.Helper()
	g, e := term.New(width, most)
	if e != api.OK || g == nil {
		t.Fatalf("New(%d, %d): %v, error %d", width, most, g, e)
	}
	return g
}

// number asks for a constant, which must not be refused.
func number(t *testing.T, g *term.Graph, v uint64) int {
	t.Helper()
	x, e := g.Const(v)
	if e != api.OK {
		t.Fatalf("Const(%d): error %d", v, e)
	}
	return x
}

// variable asks for a variable, which must not be refused.
func variable(t *testing.T, g *term.Graph, n int) int {
	t.Helper()
	x, e := g.Var(n)
	if e != api.OK {
		t.Fatalf("Var(%d): error %d", n, e)
	}
	return x
}

// app asks for an operator with arguments, which must not be refused.
func app(t *testing.T, g *term.Graph, o uint8, args ...int) int {
	t.Helper()
	x, e := g.App(o, args...)
	if e != api.OK {
		t.Fatalf("App(%d, %d): error %d", o, args, e)
	}
	return x
}

// sameNode reports whether two nodes are equal.
func sameNode(a, b api.Node) bool {
	return a.Op == b.Op && a.Num == b.Num && slices.Equal(a.A, b.A)
}

// wantNodes tells all nodes of a graph, by all that shows them.
func wantNodes(t *testing.T, g *term.Graph, want ...api.Node) {
	t.Helper()
	if g.Len() != len(want) {
		t.Fatalf("Len: %d, want %d", g.Len(), len(want))
	}
	for x, w := range want {
		if n, e := g.Node(x); !sameNode(n, w) || e != api.OK {
			t.Fatalf("Node(%d): %v, error %d, want %v", x, n, e, w)
		}
	}
	for _, x := range noTerms(len(want)) {
		if n, e := g.Node(x); !sameNode(n, api.Node{}) || e != api.ErrRange {
			t.Fatalf("Node(%d) of %d nodes: %v, error %d", x, len(want), n, e)
		}
	}
}

// wantError tells that a call with a term as its result was refused.
func wantError(t *testing.T, call string, x int, e, want api.Errno) {
	t.Helper()
	if x != 0 || e != want {
		t.Errorf("%s: %d, error %d, want 0, error %d", call, x, e, want)
	}
}

// noTerms returns numbers that are no terms of a graph with n nodes.
func noTerms(n int) []int {
	return []int{math.MinInt, math.MinInt32, -2, -1, n, n + 1, api.MaxNodes, 1 << 32, 1<<32 + 1, -1 << 32, math.MaxInt}
}

// arity returns how many arguments an operator has, 0 for numbers that are none.
func arity(o uint8) int {
	switch {
	case o == api.OpNot || o == api.OpNeg:
		return 1
	case o == api.OpIte:
		return 3
	case o > api.OpNeg && o < api.OpIte:
		return 2
	}
	return 0
}

// plain is a graph that is searched from end to end.
type plain struct {
	width, room int
	nodes       []api.Node
}

func (p *plain) ask(n api.Node) (int, api.Errno) {
	for x, there := range p.nodes {
		if sameNode(n, there) {
			return x, api.OK
		}
	}
	if len(p.nodes) == p.room {
		return 0, api.ErrBudget
	}
	p.nodes = append(p.nodes, n)
	return len(p.nodes) - 1, api.OK
}

func (p *plain) number(v uint64) (int, api.Errno) {
	size := new(big.Int).Lsh(big.NewInt(1), uint(p.width))
	word := new(big.Int).Mod(new(big.Int).SetUint64(v), size)
	return p.ask(api.Node{Op: api.OpConst, Num: word.Uint64()})
}

func (p *plain) variable(n int) (int, api.Errno) {
	if n < 0 || n > maxVar {
		return 0, api.ErrRange
	}
	return p.ask(api.Node{Op: api.OpVar, Num: uint64(n)})
}

func (p *plain) app(o uint8, args ...int) (int, api.Errno) {
	if n := arity(o); n == 0 || n != len(args) {
		return 0, api.ErrArg
	}
	for _, x := range args {
		if x < 0 || x >= len(p.nodes) {
			return 0, api.ErrRange
		}
	}
	return p.ask(api.Node{Op: o, A: slices.Clone(args)})
}

func (p *plain) copied() *plain {
	return &plain{p.width, p.room, slices.Clone(p.nodes)}
}
