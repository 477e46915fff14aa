package term

import (
	"weephole/api"
	"weephole/op"
)

// maxArity is the greatest number of arguments of an operator.
const maxArity = 3

// node is a node that can be compared. Arguments that its operator does not have are 0.
type node struct {
	num  uint64
	args [maxArity]int
	op   uint8
}

// plain returns a node as others see it.
func (n node) plain() api.Node {
	arity, _ := op.Arity(n.op)
	return api.Node{Op: n.op, Num: n.num, A: append([]int(nil), n.args[:arity]...)}
}
