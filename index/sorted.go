package index

import "iter"

// sorted is a list in an order. It is never written to: what changes it makes another one that shares most of its nodes, so that a copy costs nothing.
type sorted[T any] struct {
	compare func(a, b T) int
	root    *node[T]
}

// node is an item, those ahead of it and those behind it, in a tree whose sides differ in height by at most one.
type node[T any] struct {
	item        T
	left, right *node[T]
	height      int
}

// tall is the height of a tree.
func (n *node[T]) tall() int {
	if n == nil {
		return 0
	}
	return n.height
}

// made is a tree whose sides are known to be balanced.
func made[T any](item T, left, right *node[T]) *node[T] {
	return &node[T]{item: item, left: left, right: right, height: 1 + max(left.tall(), right.tall())}
}

// balanced is a tree whose sides differ in height by at most two.
func balanced[T any](item T, left, right *node[T]) *node[T] {
	switch {
	case left.tall() > right.tall()+1 && left.left.tall() >= left.right.tall():
		return made(left.item, left.left, made(item, left.right, right))
	case left.tall() > right.tall()+1:
		top := left.right
		return made(top.item, made(left.item, left.left, top.left), made(item, top.right, right))
	case right.tall() > left.tall()+1 && right.right.tall() >= right.left.tall():
		return made(right.item, made(item, left, right.left), right.right)
	case right.tall() > left.tall()+1:
		top := right.left
		return made(top.item, made(item, left, top.left), made(right.item, top.right, right.right))
	}
	return made(item, left, right)
}

// with is the list with an item, in place of one that compares the same.
func (s sorted[T]) with(item T) sorted[T] {
	s.root = s.put(s.root, item)
	return s
}

func (s sorted[T]) put(n *node[T], item T) *node[T] {
	if n == nil {
		return made(item, nil, nil)
	}
	switch order := s.compare(item, n.item); {
	case order < 0:
		return balanced(n.item, s.put(n.left, item), n.right)
	case order > 0:
		return balanced(n.item, n.left, s.put(n.right, item))
	}
	return made(item, n.left, n.right)
}

// without is the list without the item that compares the same.
func (s sorted[T]) without(item T) sorted[T] {
	s.root = s.drop(s.root, item)
	return s
}

func (s sorted[T]) drop(n *node[T], item T) *node[T] {
	if n == nil {
		return nil
	}
	switch order := s.compare(item, n.item); {
	case order < 0:
		return balanced(n.item, s.drop(n.left, item), n.right)
	case order > 0:
		return balanced(n.item, n.left, s.drop(n.right, item))
	case n.left == nil:
		return n.right
	case n.right == nil:
		return n.left
	}
	least := n.right
	for least.left != nil {
		least = least.left
	}
	return balanced(least.item, n.left, s.drop(n.right, least.item))
}

// find is the item that compares the same, and whether there is one.
func (s sorted[T]) find(item T) (found T, is bool) {
	for n := s.root; n != nil; {
		switch order := s.compare(item, n.item); {
		case order < 0:
			n = n.left
		case order > 0:
			n = n.right
		default:
			return n.item, true
		}
	}
	return found, false
}

// from produces the items from the first one on that does not stand ahead of least.
func (s sorted[T]) from(least T) iter.Seq[T] {
	return func(yield func(T) bool) { s.visit(s.root, least, yield) }
}

// visit visits the items of a tree from least on, and says whether to go on.
func (s sorted[T]) visit(n *node[T], least T, yield func(T) bool) bool {
	if n == nil {
		return true
	}
	if s.compare(n.item, least) >= 0 && (!s.visit(n.left, least, yield) || !yield(n.item)) {
		return false
	}
	return s.visit(n.right, least, yield)
}
