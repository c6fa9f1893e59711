package stack

import (
	"iter"
	"slices"
)

// pile is one stack; its last element is the top. Elements are never written to, so that two places may share one.
type pile struct{ elements [][]byte }

func (p *pile) size() int { return len(p.elements) }

// push puts elements on the pile, the last one at the top.
func (p *pile) push(elements ...[]byte) { p.elements = append(p.elements, elements...) }

// drop takes n elements off the pile.
func (p *pile) drop(n int) { p.elements = p.elements[:p.size()-n] }

// downward produces the elements from the top downwards, each with its depth.
func (p *pile) downward() iter.Seq2[int, []byte] {
	return func(yield func(int, []byte) bool) {
		for depth := range p.elements {
			if !yield(depth, p.elements[p.size()-1-depth]) {
				return
			}
		}
	}
}

// below is the element n below the top.
func (p *pile) below(n int) []byte {
	var found []byte
search:
	for depth, b := range p.downward() {
		if depth == n {
			found = b
			break search
		}
	}
	return found
}

// last are the n highest elements, the top last.
func (p *pile) last(n int) [][]byte { return slices.Clone(p.elements[p.size()-n:]) }

// copies are copies of all elements, the top last.
func (p *pile) copies() [][]byte {
	l := make([][]byte, 0, p.size())
	for _, b := range p.elements {
		l = append(l, slices.Clone(b))
	}
	return l
}
