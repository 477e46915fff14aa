package word

import (
	"math"

	"weephole/api"
)

// calculation is how an operator calculates: the field for its number of arguments is set. Of the result only the lowest bits count, as many as a word has.
type calculation struct {
	one   func(a word) uint64
	two   func(a, b word) uint64
	three func(a, b, c word) uint64
}

// calculationOf returns how an operator calculates.
func calculationOf(operator uint8) calculation {
	return [...]calculation{
		api.OpNot: {one: word.not},
		api.OpNeg: {one: word.neg},
		api.OpAdd: {two: word.add},
		api.OpSub: {two: word.sub},
		api.OpMul: {two: word.mul},
		api.OpDiv: {two: word.div},
		api.OpRem: {two: word.rem},
		api.OpAnd: {two: word.and},
		api.OpOr:  {two: word.or},
		api.OpXor: {two: word.xor},
		api.OpShl: {two: word.shl},
		api.OpShr: {two: word.shr},
		api.OpSar: {two: word.sar},
		api.OpEq:  {two: word.eq},
		api.OpNe:  {two: word.ne},
		api.OpLt:  {two: word.lt},
		api.OpLe:  {two: word.le},
		api.OpSlt: {two: word.slt},
		api.OpSle: {two: word.sle},
		api.OpIte: {three: word.ite},
	}[operator]
}

// word is a word of a width. All bits above the lowest width ones are 0.
type word struct {
	width int
	bits  uint64
}

// trimmed returns the word that the lowest bits of a number are.
func trimmed(width int, v uint64) word {
	return word{width, v & (math.MaxUint64 >> (api.MaxWidth - width))}
}

// signed returns a word as a signed number.
func (a word) signed() int64 {
	above := api.MaxWidth - a.width
	return int64(a.bits<<above) >> above
}

// truth returns 1 if something is true, otherwise 0.
func truth(holds bool) uint64 {
	if holds {
		return 1
	}
	return 0
}

func (a word) not() uint64 { return ^a.bits }
func (a word) neg() uint64 { return -a.bits }

func (a word) add(b word) uint64 { return a.bits + b.bits }
func (a word) sub(b word) uint64 { return a.bits - b.bits }
func (a word) mul(b word) uint64 { return a.bits * b.bits }

func (a word) div(b word) uint64 {
	if b.bits == 0 {
		return math.MaxUint64
	}
	return a.bits / b.bits
}

func (a word) rem(b word) uint64 {
	if b.bits == 0 {
		return a.bits
	}
	return a.bits % b.bits
}

func (a word) and(b word) uint64 { return a.bits & b.bits }
func (a word) or(b word) uint64  { return a.bits | b.bits }
func (a word) xor(b word) uint64 { return a.bits ^ b.bits }

// Shifts by the width or more need no case of their own: Go shifts by any number of bits, and what shl moves above the word does not count.

func (a word) shl(b word) uint64 { return a.bits << b.bits }
func (a word) shr(b word) uint64 { return a.bits >> b.bits }
func (a word) sar(b word) uint64 { return uint64(a.signed() >> b.bits) }

func (a word) eq(b word) uint64  { return truth(a.bits == b.bits) }
func (a word) ne(b word) uint64  { return truth(a.bits != b.bits) }
func (a word) lt(b word) uint64  { return truth(a.bits < b.bits) }
func (a word) le(b word) uint64  { return truth(a.bits <= b.bits) }
func (a word) slt(b word) uint64 { return truth(a.signed() < b.signed()) }
func (a word) sle(b word) uint64 { return truth(a.signed() <= b.signed()) }

func (a word) ite(b, c word) uint64 {
	if a.bits != 0 {
		return b.bits
	}
	return c.bits
}
