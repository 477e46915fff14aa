package order

import "slices"

// absent is the place of an element that is not in the tree.
const absent = -1

// queue is elements from 0 on, each of which has a key and is in the queue or not. Those that are in it form a binary tree in which none comes before its parent, so that the first one is at the root.
type queue[K any] struct {
	before func(a, b K) bool
	keys   []K   // of all elements, also of those that are not in the tree
	tree   []int // the elements by place; those below the place p have the places 2p+1 and 2p+2
	places []int // by element
}

// newQueue returns a queue with all elements that the keys are of.
func newQueue[K any](keys []K, before func(a, b K) bool) queue[K] {
	q := queue[K]{before: before, keys: keys, tree: make([]int, 0, len(keys)), places: make([]int, len(keys))}
	for e := range keys {
		q.places[e] = absent
	}
	for e := range keys {
		q.push(e)
	}
	return q
}

// copied returns a queue that shares nothing with this one.
func (q *queue[K]) copied() queue[K] {
	return queue[K]{
		before: q.before,
		keys:   slices.Clone(q.keys),
		tree:   slices.Clone(q.tree),
		places: slices.Clone(q.places),
	}
}

// size returns how many elements are in the queue.
func (q *queue[K]) size() int {
	return len(q.tree)
}

// has reports whether an element is in the queue.
func (q *queue[K]) has(e int) bool {
	return q.places[e] != absent
}

// key returns the key of an element.
func (q *queue[K]) key(e int) K {
	return q.keys[e]
}

// advance gives an element a key with which it comes no later than with its own.
func (q *queue[K]) advance(e int, key K) {
	q.keys[e] = key
	if q.has(e) {
		q.rise(q.places[e])
	}
}

// push puts an element into the queue.
func (q *queue[K]) push(e int) {
	if q.has(e) {
		return
	}
	q.tree = append(q.tree, e)
	q.places[e] = len(q.tree) - 1
	q.rise(q.places[e])
}

// pop takes the first element out of the queue, which is not empty.
func (q *queue[K]) pop() int {
	first, last := q.tree[0], len(q.tree)-1
	q.swap(0, last)
	q.tree = q.tree[:last]
	q.places[first] = absent
	q.sink(0)
	return first
}

// rise moves the element at a place towards the root, as far as it comes before those there.
func (q *queue[K]) rise(p int) {
	for p > 0 {
		parent := (p - 1) / 2
		if !q.precedes(p, parent) {
			return
		}
		q.swap(p, parent)
		p = parent
	}
}

// sink moves the element at a place away from the root, as far as others come before it.
func (q *queue[K]) sink(p int) {
	for {
		first := p
		for child := 2*p + 1; child <= 2*p+2 && child < len(q.tree); child++ {
			if q.precedes(child, first) {
				first = child
			}
		}
		if first == p {
			return
		}
		q.swap(p, first)
		p = first
	}
}

// precedes reports whether the element at a place comes before the one at another place.
func (q *queue[K]) precedes(p, other int) bool {
	return q.before(q.keys[q.tree[p]], q.keys[q.tree[other]])
}

// swap lets the elements at two places change them.
func (q *queue[K]) swap(p, other int) {
	a, b := q.tree[p], q.tree[other]
	q.tree[p], q.tree[other] = b, a
	q.places[b], q.places[a] = p, other
}
