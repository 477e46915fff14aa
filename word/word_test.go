package word_test

import (
	"math"
	"math/big"
	"slices"
	"testing"

	"weephole/api"
	"weephole/op"
	"weephole/word"
)

// invalidWidths returns numbers that are no widths.
func invalidWidths() []int {
	return []int{math.MinInt, -64, -1, 0, 65, 128, 1<<32 + 1, math.MaxInt}
}

// top returns the greatest word of a width.
func top(width int) uint64 {
	return 1<<width - 1
}

// high returns the word of which only the highest bit is set.
func high(width int) uint64 {
	return 1 << (width - 1)
}

// notable returns words of a width at which an operator may go wrong, each once.
func notable(width int) []uint64 {
	w, h := uint64(width), high(width)
	list := []uint64{
		0, 1, 2, 3, w - 2, w - 1, w, w + 1, 63, 64, 65,
		h - 1, h, h + 1, top(width) - 1, top(width), 1 << 32, 1<<32 + 1,
		0x5555555555555555, 0xaaaaaaaaaaaaaaaa, 0x9e3779b97f4a7c15,
	}
	for i := range list {
		list[i] &= top(width)
	}
	slices.Sort(list)
	return slices.Compact(list)
}

// words returns all words of a small width, and the notable ones of a greater one.
func words(width int) []uint64 {
	if width > 4 {
		return notable(width)
	}
	var list []uint64
	for v := range top(width) + 1 {
		list = append(list, v)
	}
	return list
}

// eachWord calls f with words of all widths.
func eachWord(f func(width int, a uint64)) {
	for width := 1; width <= api.MaxWidth; width++ {
		for _, a := range words(width) {
			f(width, a)
		}
	}
}

// eachPair calls f with pairs of words of all widths.
func eachPair(f func(width int, a, b uint64)) {
	eachWord(func(width int, a uint64) {
		for _, b := range words(width) {
			f(width, a, b)
		}
	})
}

// eachTriple calls f with triples of words of some widths.
func eachTriple(f func(width int, a, b, c uint64)) {
	eachPair(func(width int, a, b uint64) {
		if width > 4 && width != 8 && width != 33 && width < 63 {
			return
		}
		for _, c := range words(width) {
			f(width, a, b, c)
		}
	})
}

// operators returns the operators that calculate and have n arguments.
func operators(n int) []uint8 {
	var list []uint8
	for o := api.OpNot; o <= api.OpIte; o++ {
		if k, _ := op.Arity(o); k == n {
			list = append(list, o)
		}
	}
	return list
}

// apply returns the result of an operator, which must have one.
func apply(t *testing.T, o uint8, width int, args ...uint64) uint64 {
	t.Helper()
	v, e := word.Apply(o, width, args...)
	if e != api.OK {
		t.Fatalf("Apply(%d, %d; %d): error %d", o, width, args, e)
	}
	return v
}

// wantApply tells what Apply returns.
func wantApply(t *testing.T, want uint64, err api.Errno, o uint8, width int, args ...uint64) {
	t.Helper()
	if v, e := word.Apply(o, width, args...); v != want || e != err {
		t.Errorf("Apply(%d, %d; %d) = %d, %d, want %d, %d", o, width, args, v, e, want, err)
	}
}

// number returns a whole number of any size.
func number(v uint64) *big.Int {
	return new(big.Int).SetUint64(v)
}

// power returns 2^n.
func power(n uint64) *big.Int {
	return new(big.Int).Lsh(big.NewInt(1), uint(n))
}

// asSigned returns a word as a signed number, as S2 defines it.
func asSigned(width int, v uint64) *big.Int {
	n := number(v)
	if v >= high(width) {
		n.Sub(n, power(uint64(width)))
	}
	return n
}

// truth returns 1 or 0.
func truth(holds bool) *big.Int {
	if holds {
		return big.NewInt(1)
	}
	return big.NewInt(0)
}

// one calculates an operator with one argument as the chapter defines it, with numbers of any size.
func one(o uint8, width int, a uint64) *big.Int {
	if o == api.OpNot {
		return new(big.Int).Sub(number(top(width)), number(a))
	}
	return new(big.Int).Neg(number(a))
}

// two does so for an operator with two arguments.
func two(o uint8, width int, a, b uint64) *big.Int {
	r, x, y := new(big.Int), number(a), number(b)
	switch o {
	case api.OpAdd:
		return r.Add(x, y)
	case api.OpSub:
		return r.Sub(x, y)
	case api.OpMul:
		return r.Mul(x, y)
	case api.OpDiv:
		if b == 0 {
			return number(top(width))
		}
		return r.Div(x, y)
	case api.OpRem:
		if b == 0 {
			return x
		}
		return r.Sub(x, r.Mul(y, r.Div(x, y)))
	case api.OpAnd:
		return r.And(x, y)
	case api.OpOr:
		return r.Or(x, y)
	case api.OpXor:
		return r.Xor(x, y)
	case api.OpShl, api.OpShr, api.OpSar:
		return shift(o, width, a, b)
	case api.OpSlt, api.OpSle:
		x, y = asSigned(width, a), asSigned(width, b)
	}
	return truth(compare(o, x.Cmp(y)))
}

// shift does so for a shift.
func shift(o uint8, width int, a, b uint64) *big.Int {
	r := new(big.Int)
	switch {
	case b >= uint64(width) && o == api.OpSar && a >= high(width):
		return number(top(width))
	case b >= uint64(width):
		return r
	case o == api.OpShl:
		return r.Mul(number(a), power(b))
	case o == api.OpShr:
		return r.Div(number(a), power(b))
	}
	// Div rounds down, as the divisor is positive.
	return r.Div(asSigned(width, a), power(b))
}

// compare reports whether a comparison holds, by the sign of the difference of the numbers.
func compare(o uint8, sign int) bool {
	switch o {
	case api.OpEq:
		return sign == 0
	case api.OpNe:
		return sign != 0
	case api.OpLt, api.OpSlt:
		return sign < 0
	}
	return sign <= 0
}

// modulo returns the word that a number is.
func modulo(width int, n *big.Int) uint64 {
	return new(big.Int).Mod(n, power(uint64(width))).Uint64()
}

// P9.1

func TestCheck(t *testing.T) {
	for width := 1; width <= api.MaxWidth; width++ {
		if e := word.Check(width); e != api.OK {
			t.Errorf("Check(%d) = %d", width, e)
		}
	}
	for _, width := range invalidWidths() {
		if e := word.Check(width); e != api.ErrRange {
			t.Errorf("Check(%d) = %d", width, e)
		}
	}
}

func TestTrim(t *testing.T) {
	eachWord(func(width int, a uint64) {
		for _, v := range []uint64{a, ^a, a + 1<<width, a - 1<<width, a | ^top(width), a ^ 0xff<<width} {
			if got, e := word.Trim(width, v); got != modulo(width, number(v)) || e != api.OK {
				t.Errorf("Trim(%d, %d) = %d, %d", width, v, got, e)
			}
		}
	})
	if v, e := word.Trim(4, 31); v != 15 || e != api.OK {
		t.Errorf("Trim(4, 31) = %d, %d", v, e)
	}
	for _, width := range invalidWidths() {
		if v, e := word.Trim(width, math.MaxUint64); v != 0 || e != api.ErrRange {
			t.Errorf("Trim(%d, 2^64 - 1) = %d, %d", width, v, e)
		}
	}
}

// P9.2

func TestSigned(t *testing.T) {
	eachWord(func(width int, a uint64) {
		for _, v := range []uint64{a, a + 1<<width, a | ^top(width)} {
			if got, e := word.Signed(width, v); big.NewInt(got).Cmp(asSigned(width, a)) != 0 || e != api.OK {
				t.Errorf("Signed(%d, %d) = %d, %d", width, v, got, e)
			}
		}
	})
	for _, width := range invalidWidths() {
		if v, e := word.Signed(width, 1); v != 0 || e != api.ErrRange {
			t.Errorf("Signed(%d, 1) = %d, %d", width, v, e)
		}
	}
}

func TestSignedExamples(t *testing.T) {
	for _, c := range []struct {
		width int
		v     uint64
		want  int64
	}{
		{4, 24, -8}, {4, 7, 7}, {4, 15, -1}, {1, 1, -1}, {1, 0, 0}, {1, 2, 0},
		{64, math.MaxUint64, -1}, {64, 1 << 63, math.MinInt64}, {64, 1<<63 - 1, math.MaxInt64},
	} {
		if v, e := word.Signed(c.width, c.v); v != c.want || e != api.OK {
			t.Errorf("Signed(%d, %d) = %d, %d, want %d", c.width, c.v, v, e, c.want)
		}
	}
}

// P9.3

func TestApplyOne(t *testing.T) {
	eachWord(func(width int, a uint64) {
		for _, o := range operators(1) {
			wantApply(t, modulo(width, one(o, width, a)), api.OK, o, width, a)
		}
	})
}

func TestApplyTwo(t *testing.T) {
	eachPair(func(width int, a, b uint64) {
		for _, o := range operators(2) {
			wantApply(t, modulo(width, two(o, width, a, b)), api.OK, o, width, a, b)
		}
	})
}

func TestApplyThree(t *testing.T) {
	eachTriple(func(width int, a, b, c uint64) {
		want := b
		if a == 0 {
			want = c
		}
		wantApply(t, want, api.OK, api.OpIte, width, a, b, c)
	})
}

func TestApplyExamples(t *testing.T) {
	for _, c := range []struct {
		o    uint8
		args []uint64
		want uint64
	}{
		{api.OpNot, []uint64{2}, 5}, {api.OpNeg, []uint64{3}, 5}, {api.OpAdd, []uint64{5, 6}, 3},
		{api.OpSub, []uint64{2, 5}, 5}, {api.OpMul, []uint64{3, 5}, 7},
		{api.OpDiv, []uint64{7, 2}, 3}, {api.OpDiv, []uint64{7, 0}, 7},
		{api.OpRem, []uint64{7, 2}, 1}, {api.OpRem, []uint64{5, 0}, 5},
		{api.OpAnd, []uint64{6, 3}, 2}, {api.OpOr, []uint64{6, 3}, 7}, {api.OpXor, []uint64{6, 3}, 5},
		{api.OpShl, []uint64{3, 1}, 6}, {api.OpShl, []uint64{3, 3}, 0},
		{api.OpShr, []uint64{6, 1}, 3}, {api.OpShr, []uint64{6, 3}, 0},
		{api.OpSar, []uint64{6, 1}, 7}, {api.OpSar, []uint64{6, 5}, 7}, {api.OpSar, []uint64{3, 7}, 0},
		{api.OpEq, []uint64{4, 4}, 1}, {api.OpNe, []uint64{4, 4}, 0},
		{api.OpLt, []uint64{3, 4}, 1}, {api.OpSlt, []uint64{3, 4}, 0},
		{api.OpLe, []uint64{4, 4}, 1}, {api.OpSle, []uint64{4, 3}, 1},
		{api.OpIte, []uint64{4, 1, 2}, 1}, {api.OpIte, []uint64{0, 1, 2}, 2}, {api.OpIte, []uint64{8, 1, 2}, 2},
	} {
		wantApply(t, c.want, api.OK, c.o, 3, c.args...)
	}
	wantApply(t, 0, api.OK, api.OpMul, 64, 1<<32, 1<<32)
	wantApply(t, 1, api.OK, api.OpSar, 1, 1, 0)
	wantApply(t, 1, api.OK, api.OpSlt, 1, 1, 0)
}

func TestApplyErrors(t *testing.T) {
	args := []uint64{1, 2, 3, 4}
	for o := range math.MaxUint8 + 1 {
		arity, e := op.Arity(uint8(o))
		known := o >= int(api.OpNot) && e == api.OK
		for n := range len(args) + 1 {
			for _, width := range invalidWidths() {
				wantApply(t, 0, api.ErrRange, uint8(o), width, args[:n]...)
			}
			if !known {
				wantApply(t, 0, api.ErrRange, uint8(o), 3, args[:n]...)
			} else if n != arity {
				wantApply(t, 0, api.ErrArg, uint8(o), 3, args[:n]...)
			} else {
				apply(t, uint8(o), 3, args[:n]...)
			}
		}
	}
}

func TestApplyErrorExamples(t *testing.T) {
	wantApply(t, 0, api.ErrRange, api.OpConst, 3)
	wantApply(t, 0, api.ErrRange, api.OpVar, 3)
	wantApply(t, 0, api.ErrArg, api.OpAdd, 3, 1)
	wantApply(t, 0, api.ErrRange, api.OpAdd, 0, 1)
	wantApply(t, 0, api.ErrRange, 22, 3)
	wantApply(t, 0, api.ErrArg, api.OpNot, 3)
	wantApply(t, 0, api.ErrArg, api.OpIte, 64, 1, 2)
	wantApply(t, 0, api.ErrArg, api.OpAdd, 1, make([]uint64, 1000)...)
}

func TestApplyKeepsArguments(t *testing.T) {
	args := []uint64{1 << 40, 7 << 40, 9 << 40}
	for n := 1; n <= 3; n++ {
		for _, o := range operators(n) {
			apply(t, o, 8, args[:n]...)
			if !slices.Equal(args, []uint64{1 << 40, 7 << 40, 9 << 40}) {
				t.Fatalf("Apply of %d changed its arguments to %d", o, args)
			}
		}
	}
}

// P9.4

func TestResultsAreWords(t *testing.T) {
	eachPair(func(width int, a, b uint64) {
		for n := 1; n <= 3; n++ {
			for _, o := range operators(n) {
				args := []uint64{a, b, a}[:n]
				if v := apply(t, o, width, args...); v > top(width) {
					t.Errorf("Apply(%d, %d; %d) = %d is no word", o, width, args, v)
				} else if v > 1 && o >= api.OpEq && o <= api.OpSle {
					t.Errorf("Apply(%d, %d; %d) = %d is neither 0 nor 1", o, width, args, v)
				}
			}
		}
	})
}

func TestArgumentsModulo(t *testing.T) {
	eachPair(func(width int, a, b uint64) {
		if width == api.MaxWidth {
			return
		}
		other := []uint64{a + 1<<width, b | ^top(width), a - 1<<width}
		for n := 1; n <= 3; n++ {
			for _, o := range operators(n) {
				args := []uint64{a, b, a}[:n]
				wantApply(t, apply(t, o, width, args...), api.OK, o, width, other[:n]...)
			}
		}
	})
}

// P9.5

func TestNegations(t *testing.T) {
	eachPair(func(width int, a, b uint64) {
		not := apply(t, api.OpNot, width, a)
		wantApply(t, apply(t, api.OpAdd, width, not, 1), api.OK, api.OpNeg, width, a)
		neg := apply(t, api.OpNeg, width, b)
		wantApply(t, apply(t, api.OpAdd, width, a, neg), api.OK, api.OpSub, width, a, b)
	})
}

func TestDivAndRem(t *testing.T) {
	eachPair(func(width int, a, b uint64) {
		if b == 0 {
			return
		}
		div, rem := apply(t, api.OpDiv, width, a, b), apply(t, api.OpRem, width, a, b)
		wantApply(t, a, api.OK, api.OpAdd, width, rem, apply(t, api.OpMul, width, div, b))
		wantApply(t, 1, api.OK, api.OpLt, width, rem, b)
	})
}

// P9.6

func TestCommute(t *testing.T) {
	eachPair(func(width int, a, b uint64) {
		for _, o := range operators(2) {
			if op.Commutes(o) {
				wantApply(t, apply(t, o, width, a, b), api.OK, o, width, b, a)
			}
		}
	})
}

func TestAssociative(t *testing.T) {
	eachTriple(func(width int, a, b, c uint64) {
		for _, o := range []uint8{api.OpAdd, api.OpMul, api.OpAnd, api.OpOr, api.OpXor} {
			left := apply(t, o, width, apply(t, o, width, a, b), c)
			wantApply(t, left, api.OK, o, width, a, apply(t, o, width, b, c))
		}
	})
}

func TestDistributes(t *testing.T) {
	over := [][2]uint8{
		{api.OpMul, api.OpAdd}, {api.OpAnd, api.OpOr}, {api.OpAnd, api.OpXor}, {api.OpOr, api.OpAnd},
	}
	eachTriple(func(width int, a, b, c uint64) {
		for _, o := range over {
			each := apply(t, o[1], width, apply(t, o[0], width, a, b), apply(t, o[0], width, a, c))
			wantApply(t, each, api.OK, o[0], width, a, apply(t, o[1], width, b, c))
		}
	})
}

// P9.7

func TestComparisons(t *testing.T) {
	eachPair(func(width int, a, b uint64) {
		lt, eq, gt := apply(t, api.OpLt, width, a, b), apply(t, api.OpEq, width, a, b), apply(t, api.OpLt, width, b, a)
		if lt+eq+gt != 1 {
			t.Errorf("width %d, %d and %d: lt %d, eq %d, lt the other way %d", width, a, b, lt, eq, gt)
		}
		wantApply(t, lt|eq, api.OK, api.OpLe, width, a, b)
		wantApply(t, 1-eq, api.OK, api.OpNe, width, a, b)
	})
}

func TestSignedComparisons(t *testing.T) {
	eachPair(func(width int, a, b uint64) {
		c, d := a^high(width), b^high(width)
		wantApply(t, apply(t, api.OpLt, width, c, d), api.OK, api.OpSlt, width, a, b)
		wantApply(t, apply(t, api.OpLe, width, c, d), api.OK, api.OpSle, width, a, b)
	})
}

// P9.8

func TestShifts(t *testing.T) {
	eachPair(func(width int, a, b uint64) {
		shr := apply(t, api.OpShr, width, a, b)
		if b < uint64(width) {
			power := uint64(1) << b
			wantApply(t, apply(t, api.OpMul, width, a, power), api.OK, api.OpShl, width, a, b)
			wantApply(t, apply(t, api.OpDiv, width, a, power), api.OK, api.OpShr, width, a, b)
		}
		if a < high(width) {
			wantApply(t, shr, api.OK, api.OpSar, width, a, b)
			return
		}
		filled := apply(t, api.OpShr, width, apply(t, api.OpNot, width, a), b)
		wantApply(t, apply(t, api.OpNot, width, filled), api.OK, api.OpSar, width, a, b)
	})
}

func TestShiftsByTheWidthOrMore(t *testing.T) {
	eachWord(func(width int, a uint64) {
		fill := uint64(0)
		if a >= high(width) {
			fill = top(width)
		}
		// Shifts by less may still look right if only the lowest bits of the other argument count.
		for b := uint64(width); b <= top(width) && b < 200; b++ {
			wantApply(t, 0, api.OK, api.OpShl, width, a, b)
			wantApply(t, 0, api.OK, api.OpShr, width, a, b)
			wantApply(t, fill, api.OK, api.OpSar, width, a, b)
		}
	})
}

// P9.9

func TestLowestBits(t *testing.T) {
	eachPair(func(width int, a, b uint64) {
		for k := 1; k <= width; k++ {
			for _, o := range []uint8{api.OpAdd, api.OpMul, api.OpSub, api.OpAnd, api.OpOr, api.OpXor} {
				wantApply(t, apply(t, o, width, a, b)&top(k), api.OK, o, k, a&top(k), b&top(k))
			}
			for _, o := range []uint8{api.OpNot, api.OpNeg} {
				wantApply(t, apply(t, o, width, a)&top(k), api.OK, o, k, a&top(k))
			}
			// The chapter says so for b less than k only: k may have no word for others.
			if b < uint64(k) {
				wantApply(t, apply(t, api.OpShl, width, a, b)&top(k), api.OK, api.OpShl, k, a&top(k), b)
			}
		}
	})
}
