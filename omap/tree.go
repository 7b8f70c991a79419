package omap

import "cmp"

// A side of a node is too heavy, if it has more than heavy times as many keys as the other, both counted with one more. Its top then comes up; or the top of its inner side, if that side, counted likewise, has inner times as many as the outer one, or more. With these two numbers no side is too heavy any more, where one key came or went; others may leave one.
const (
	heavy = 3
	inner = 2
)

// node: a key with its value, the lesser keys left of it, the greater ones right. Nobody changes a node once it is made.
type node[K cmp.Ordered, V any] struct {
	key         K
	value       V
	left, right *node[K, V]
	size        int // how many keys, its own and those below it
}

func (n *node[K, V]) count() int {
	if n == nil {
		return 0
	}
	return n.size
}

// last: the node with the greatest key for which in holds; nil, if it holds for none. In must hold for each key below one for which it holds.
func (n *node[K, V]) last(in func(K) bool) *node[K, V] {
	var found *node[K, V]
	for n != nil {
		if in(n.key) {
			found, n = n, n.right
		} else {
			n = n.left
		}
	}
	return found
}

// least: the node with the least key.
func (n *node[K, V]) least() *node[K, V] {
	for n.left != nil {
		n = n.left
	}
	return n
}

// each: yields the keys that are not ahead, rising; false: yield wants no more.
func (n *node[K, V]) each(ahead func(K) bool, yield func(K, V) bool) bool {
	if n == nil {
		return true
	}
	if ahead(n.key) {
		return n.right.each(ahead, yield)
	}
	return n.left.each(ahead, yield) && yield(n.key, n.value) && n.right.each(ahead, yield)
}

// with: the tree in which k has the value v.
func (n *node[K, V]) with(k K, v V) *node[K, V] {
	if n == nil {
		return &node[K, V]{key: k, value: v, size: 1}
	}
	switch order := cmp.Compare(k, n.key); {
	case order < 0:
		return n.over(n.left.with(k, v), n.right).even()
	case order > 0:
		return n.over(n.left, n.right.with(k, v)).even()
	}
	return &node[K, V]{key: k, value: v, left: n.left, right: n.right, size: n.size}
}

// without: the tree in which k has no value.
func (n *node[K, V]) without(k K) *node[K, V] {
	if n == nil {
		return nil
	}
	switch order := cmp.Compare(k, n.key); {
	case order < 0:
		return n.over(n.left.without(k), n.right).even()
	case order > 0:
		return n.over(n.left, n.right.without(k)).even()
	case n.left == nil:
		return n.right
	case n.right == nil:
		return n.left
	}
	next := n.right.least()
	return next.over(n.left, n.right.without(next.key)).even()
}

// over: a node with n's key and value, over two trees.
func (n *node[K, V]) over(left, right *node[K, V]) *node[K, V] {
	return &node[K, V]{key: n.key, value: n.value, left: left, right: right, size: left.count() + right.count() + 1}
}

// even: n's tree, turned where one side is too heavy.
func (n *node[K, V]) even() *node[K, V] {
	left, right := n.left.count()+1, n.right.count()+1
	switch {
	case right > heavy*left:
		return n.turnLeft()
	case left > heavy*right:
		return n.turnRight()
	}
	return n
}

// turnLeft: n's tree, with a key from its right side on top.
func (n *node[K, V]) turnLeft() *node[K, V] {
	up := n.right
	if up.left.count()+1 < inner*(up.right.count()+1) {
		return up.over(n.over(n.left, up.left), up.right)
	}
	top := up.left
	return top.over(n.over(n.left, top.left), up.over(top.right, up.right))
}

// turnRight: n's tree, with a key from its left side on top.
func (n *node[K, V]) turnRight() *node[K, V] {
	up := n.left
	if up.right.count()+1 < inner*(up.left.count()+1) {
		return up.over(up.left, n.over(up.right, n.right))
	}
	top := up.right
	return top.over(up.over(up.left, top.left), n.over(top.right, n.right))
}
