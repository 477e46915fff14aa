package op_test

import (
	"math"
	"strings"
	"testing"

	"weephole/api"
	"weephole/op"
)

// inOrder is the names in the order of the operators, from OpNot on.
const inOrder = "not neg add sub mul div rem and or xor shl shr sar eq ne lt le slt sle ite"

// named returns the names of the operators that have one.
func named() map[uint8]string {
	return map[uint8]string{
		api.OpNot: "not", api.OpNeg: "neg", api.OpAdd: "add", api.OpSub: "sub", api.OpMul: "mul",
		api.OpDiv: "div", api.OpRem: "rem", api.OpAnd: "and", api.OpOr: "or", api.OpXor: "xor",
		api.OpShl: "shl", api.OpShr: "shr", api.OpSar: "sar", api.OpEq: "eq", api.OpNe: "ne",
		api.OpLt: "lt", api.OpLe: "le", api.OpSlt: "slt", api.OpSle: "sle", api.OpIte: "ite",
	}
}

// operatorOf returns which operator has a name.
func operatorOf() map[string]uint8 {
	m := map[string]uint8{}
	for o, name := range named() {
		m[name] = o
	}
	return m
}

// all calls f with every argument that an operator can be.
func all(f func(o uint8)) {
	for o := range math.MaxUint8 + 1 {
		f(uint8(o))
	}
}

// wantOf tells what Of returns for a name.
func wantOf(t *testing.T, name string, want uint8, err api.Errno) {
	t.Helper()
	if o, e := op.Of(name); o != want || e != err {
		t.Errorf("Of(%q) = %d, %d, want %d, %d", name, o, e, want, err)
	}
}

// P8.1

func TestArity(t *testing.T) {
	want := map[uint8]int{
		api.OpConst: 0, api.OpVar: 0,
		api.OpNot: 1, api.OpNeg: 1,
		api.OpAdd: 2, api.OpSub: 2, api.OpMul: 2, api.OpDiv: 2, api.OpRem: 2,
		api.OpAnd: 2, api.OpOr: 2, api.OpXor: 2,
		api.OpShl: 2, api.OpShr: 2, api.OpSar: 2,
		api.OpEq: 2, api.OpNe: 2, api.OpLt: 2, api.OpLe: 2, api.OpSlt: 2, api.OpSle: 2,
		api.OpIte: 3,
	}
	if len(want) != 22 {
		t.Fatal("there are 22 operators, not", len(want))
	}
	all(func(o uint8) {
		err := api.OK
		if o > api.OpIte {
			err = api.ErrRange
		}
		if n, e := op.Arity(o); n != want[o] || e != err {
			t.Errorf("Arity(%d) = %d, %d, want %d, %d", o, n, e, want[o], err)
		}
	})
}

// P8.2

func TestName(t *testing.T) {
	want := named()
	all(func(o uint8) {
		err := api.OK
		if o > api.OpIte {
			err = api.ErrRange
		} else if o == api.OpConst || o == api.OpVar {
			err = api.ErrNone
		}
		if s, e := op.Name(o); s != want[o] || e != err {
			t.Errorf("Name(%d) = %q, %d, want %q, %d", o, s, e, want[o], err)
		}
	})
}

func TestNamesInOrder(t *testing.T) {
	for i, want := range strings.Fields(inOrder) {
		if s, e := op.Name(api.OpNot + uint8(i)); s != want || e != api.OK {
			t.Errorf("Name(%d) = %q, %d, want %q", int(api.OpNot)+i, s, e, want)
		}
	}
}

func TestOf(t *testing.T) {
	for o, name := range named() {
		wantOf(t, name, o, api.OK)
	}
	wantOf(t, "xor", api.OpXor, api.OK)
}

func TestOfOtherNames(t *testing.T) {
	for _, name := range []string{
		"", " ", "  ", "XOR", "Xor", "xOr", "const", "var", "op", "iff", "nand", "load", "call", "halt",
		"OpAdd", "opadd", "2", "4", "+", "\x00", "\n", "\xff", "\xc3", "\u00e4", "n\u00f6t",
		strings.Repeat("a", api.MaxName+1), strings.Repeat("not", api.MaxText),
		inOrder, inOrder + " ", " " + inOrder, strings.ReplaceAll(inOrder, " ", ""),
	} {
		wantOf(t, name, 0, api.ErrNone)
	}
}

// Around a name, nothing is left away and nothing is added; names do not count in part or together.
func TestOfNearNames(t *testing.T) {
	operator := operatorOf()
	near := func(name string) {
		err := api.ErrNone
		if _, there := operator[name]; there {
			err = api.OK
		}
		wantOf(t, name, operator[name], err)
	}
	for name := range operator {
		near(name[1:])
		near(name[:1])
		near(name[:len(name)-1])
		near(strings.ToUpper(name))
		near(strings.ToUpper(name[:1]) + name[1:])
		near(name[:len(name)-1] + strings.ToUpper(name[len(name)-1:]))
		for _, x := range []string{" ", "\t", "\n", "\x00", "_", "0", "s", "\xff", "\u00e4"} {
			near(name + x)
			near(x + name)
			near(name[:1] + x + name[1:])
		}
		for other := range operator {
			near(name + other)
			near(name + " " + other)
		}
	}
	for start := range inOrder {
		for end := start; end <= len(inOrder); end++ {
			near(inOrder[start:end])
		}
	}
}

func TestOfAllShortNames(t *testing.T) {
	letters := []string{""}
	for c := 'a'; c <= 'z'; c++ {
		letters = append(letters, string(c))
	}
	operator, found := operatorOf(), map[string]uint8{}
	for _, a := range letters {
		for _, b := range letters {
			for _, c := range letters {
				name := a + b + c
				o, e := op.Of(name)
				if e == api.OK {
					found[name] = o
				} else if o != 0 || e != api.ErrNone {
					t.Errorf("Of(%q) = %d, %d", name, o, e)
				}
			}
		}
	}
	if len(found) != len(operator) {
		t.Error("names of operators:", found)
	}
	for name, o := range found {
		if want, there := operator[name]; !there || o != want {
			t.Errorf("Of(%q) = %d", name, o)
		}
	}
}

// P8.3

func TestCommutes(t *testing.T) {
	want := map[uint8]bool{
		api.OpAdd: true, api.OpMul: true, api.OpAnd: true, api.OpOr: true,
		api.OpXor: true, api.OpEq: true, api.OpNe: true,
	}
	all(func(o uint8) {
		if got := op.Commutes(o); got != want[o] {
			t.Errorf("Commutes(%d) = %v", o, got)
		}
	})
}

// P8.4

func TestNameAndOfAreInverse(t *testing.T) {
	seen := map[string]bool{}
	all(func(o uint8) {
		name, e := op.Name(o)
		if e != api.OK {
			return
		}
		wantOf(t, name, o, api.OK)
		if seen[name] {
			t.Errorf("%q is the name of two operators", name)
		}
		seen[name] = true
		if len(name) < 2 || len(name) > 3 || strings.Trim(name, "abcdefghijklmnopqrstuvwxyz") != "" {
			t.Errorf("Name(%d) = %q: not 2 or 3 letters from a to z", o, name)
		}
	})
	if len(seen) != 20 {
		t.Errorf("there are %d names, not 20", len(seen))
	}
	for name := range operatorOf() {
		o, e := op.Of(name)
		if e != api.OK {
			t.Errorf("Of(%q): error %d", name, e)
		}
		if back, e := op.Name(o); back != name || e != api.OK {
			t.Errorf("Name(Of(%q)) = %q, %d", name, back, e)
		}
	}
}

// P8.5

func TestOnlyTwoArgumentsCommute(t *testing.T) {
	some := false
	all(func(o uint8) {
		if !op.Commutes(o) {
			return
		}
		some = true
		if n, e := op.Arity(o); n != 2 || e != api.OK {
			t.Errorf("%d commutes, but has %d arguments (error %d)", o, n, e)
		}
	})
	if !some {
		t.Error("no operator commutes")
	}
}
