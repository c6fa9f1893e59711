package tree_test

import (
	"math/rand"
	"slices"
	"testing"

	"purser/api"
	"purser/block"
	"purser/pow"
	"purser/target"
	"purser/tree"
	"purser/wide"
)

const easy, hard = 0x207FFFFF, 0x201FFFFF

func root() api.Header { return api.Header{Bits: easy, Time: 1} }

func child(parent api.Header, n int, bits uint32) api.Header {
	return api.Header{Prev: block.Hash(parent), Bits: bits, Nonce: uint32(n)}
}

// add tells of a header that is not added.
func add(t *testing.T, x *tree.Tree, l ...api.Header) {
	t.Helper()
	for _, h := range l {
		if got, e := x.Add(h); got != block.Hash(h) || e != api.OK {
			t.Fatal(got, e)
		}
	}
}

func best(t *testing.T, x *tree.Tree, want api.Header) {
	t.Helper()
	if x.Best() != block.Hash(want) {
		t.Errorf("best is %s, not %s", block.Show(x.Best()), block.Show(block.Hash(want)))
	}
}

func mark(t *testing.T, x *tree.Tree, h api.Header, want api.Errno) {
	t.Helper()
	if e := x.Mark(block.Hash(h)); e != want {
		t.Error(e, want)
	}
}

// example is the tree of the chapter's examples.
func example(t *testing.T) (x *tree.Tree, a, b, c, d api.Header) {
	t.Helper()
	a = root()
	b, c = child(a, 1, easy), child(a, 2, easy)
	d = child(b, 3, easy)
	x = tree.New(a)
	best(t, x, a)
	add(t, x, b, c)
	best(t, x, b)
	add(t, x, d)
	best(t, x, d)
	return x, a, b, c, d
}

// P26.1, P26.2, P26.3
func TestExample(t *testing.T) {
	x, a, b, c, d := example(t)
	A, B, C, D := block.Hash(a), block.Hash(b), block.Hash(c), block.Hash(d)
	if !slices.Equal(x.Path(D), []api.Hash{A, B, D}) || !slices.Equal(x.Path(A), []api.Hash{A}) || x.Path(api.Hash{}) != nil || x.Len() != 4 {
		t.Error(x.Path(D))
	}
	for i, p := range []struct{ x, y, want api.Hash }{{D, C, A}, {C, D, A}, {D, B, B}, {B, D, B}, {D, D, D}, {A, D, A}, {B, C, A}} {
		if got, e := x.Fork(p.x, p.y); got != p.want || e != api.OK {
			t.Error(i, e)
		}
	}
	for _, p := range [][2]api.Hash{{A, {}}, {{}, A}, {{}, {}}} {
		if got, e := x.Fork(p[0], p[1]); got != (api.Hash{}) || e != api.ErrTree {
			t.Error(got, e)
		}
	}
	for _, h := range []api.Header{a, b, d} {
		if got, e := x.Add(h); got != (api.Hash{}) || e != api.ErrKnown {
			t.Error(e)
		}
	}
	if got, e := x.Add(child(api.Header{Nonce: 99}, 1, easy)); got != (api.Hash{}) || e != api.ErrTree || x.Len() != 4 {
		t.Error(e)
	}
	mark(t, x, d, api.OK)
	best(t, x, b)
	if x.Bad(B) || !x.Bad(D) || x.Bad(A) || x.Bad(api.Hash{}) {
		t.Error("bad")
	}
	x, a, b, c, d = example(t)
	mark(t, x, b, api.OK)
	best(t, x, c)
	if !x.Bad(D) || !x.Bad(B) || x.Bad(C) {
		t.Error("bad")
	}
	mark(t, x, c, api.OK)
	best(t, x, a)
	mark(t, x, a, api.ErrTree)
	mark(t, x, api.Header{Nonce: 5}, api.ErrTree)
	best(t, x, a)
}

// P26.2, P26.3
func TestNodes(t *testing.T) {
	x, a, b, c, d := example(t)
	mark(t, x, b, api.OK)
	for seen, h := range []api.Header{a, b, c, d} {
		height := []int{0, 1, 1, 2}[seen]
		want := api.Node{Hash: block.Hash(h), Header: h, Height: height, Total: wide.Of(uint64(2 * (height + 1))), Seen: seen, Marked: seen == 1}
		if n, is := x.Node(block.Hash(h)); n != want || !is {
			t.Error(seen, n, is)
		}
		for at := range height + 1 {
			n, e := x.At(block.Hash(h), at)
			if path := x.Path(block.Hash(h)); n.Hash != path[at] || n.Height != at || e != api.OK {
				t.Error(seen, at, n, e)
			}
		}
		for _, at := range []int{-1, height + 1, 1 << 62, -1 << 63} {
			if n, e := x.At(block.Hash(h), at); n != (api.Node{}) || e != api.ErrTree {
				t.Error(seen, at, n, e)
			}
		}
	}
	if n, is := x.Node(api.Hash{}); n != (api.Node{}) || is {
		t.Error(n, is)
	}
	if n, e := x.At(api.Hash{}, 0); n != (api.Node{}) || e != api.ErrTree {
		t.Error(n, e)
	}
	if got := x.Behind(block.Hash(a)); !slices.Equal(got, []api.Hash{block.Hash(b), block.Hash(c)}) {
		t.Error(got)
	}
	if got := x.Behind(block.Hash(d)); len(got) != 0 {
		t.Error(got)
	}
	if got := x.Behind(api.Hash{}); len(got) != 0 { // the root's Prev, but no parent
		t.Error(got)
	}
}

// P26.3
func TestBehind(t *testing.T) {
	x := tree.New(root())
	var want []api.Hash
	for n := range 50 {
		h := child(root(), n, easy)
		add(t, x, h, child(h, n, easy))
		want = append(want, block.Hash(h))
	}
	if got := x.Behind(block.Hash(root())); !slices.Equal(got, want) {
		t.Error(got)
	}
}

// P26.2
func TestWorkCounts(t *testing.T) {
	a := root()
	x := tree.New(a)
	b1, c1 := child(a, 1, easy), child(a, 2, hard)
	b2 := child(b1, 3, easy)
	b3 := child(b2, 4, easy)
	b4 := child(b3, 5, easy)
	add(t, x, b1, b2, b3)
	add(t, x, c1) // 8 of work, as much as four of 2
	best(t, x, c1)
	add(t, x, b4)
	best(t, x, c1) // the same work, seen later
	b5 := child(b4, 6, easy)
	add(t, x, b5)
	best(t, x, b5)
	none := child(b5, 7, 0) // bits without work
	add(t, x, none)
	best(t, x, b5)
	if n, _ := x.Node(block.Hash(none)); n.Total != wide.Of(12) || n.Height != 6 {
		t.Error(n)
	}
	mark(t, x, b5, api.OK)
	best(t, x, c1) // of b4 and c1 the one that was seen first
	late := child(none, 8, 0x01010000)
	add(t, x, late)
	best(t, x, c1)
	if !x.Bad(block.Hash(late)) || !x.Bad(block.Hash(none)) {
		t.Error("behind a bad one")
	}
	if n, _ := x.Node(block.Hash(late)); n.Marked || n.Seen != 8 {
		t.Error(n)
	}
	mark(t, x, late, api.OK)
	mark(t, x, late, api.OK)
	if n, _ := x.Node(block.Hash(late)); !n.Marked {
		t.Error(n)
	}
}

// P26.2: sums above all numbers.
func TestGreatestTotal(t *testing.T) {
	a := api.Header{Bits: 0x01010000} // 2^255 of work
	x := tree.New(a)
	b := child(a, 1, 0x01010000)
	c := child(b, 2, 0x01010000)
	add(t, x, b, c)
	best(t, x, b)
	if n, _ := x.Node(block.Hash(c)); n.Total != wide.Not(wide.Of(0)) {
		t.Error(n)
	}
}

// P26.2, P26.3, P26.5
func TestModel(t *testing.T) {
	r := rand.New(rand.NewSource(26))
	l := []api.Header{root()}
	parent, marked := []int{-1}, map[int]int{}
	x := tree.New(l[0])
	var kept *tree.Tree
	for step := range 400 {
		switch {
		case r.Intn(8) == 0 && len(l) > 1:
			i := 1 + r.Intn(len(l)-1)
			was := x.Best()
			mark(t, x, l[i], api.OK)
			marked[i] = 1
			if !x.Bad(was) && x.Best() != was {
				t.Fatal("another best node")
			}
		default:
			i := max(0, len(l)-1-r.Intn(9))
			h := child(l[i], step, []uint32{easy, hard, 0x203FFFFF}[r.Intn(3)])
			add(t, x, h)
			l, parent = append(l, h), append(parent, i)
		}
		agrees(t, x, l, parent, marked)
		if step == 200 {
			kept = x.Copy()
		}
	}
	if kept.Len() == x.Len() {
		t.Error("shared")
	}
}

// agrees tells of a tree that answers otherwise than the list of headers with the places of their parents.
func agrees(t *testing.T, x *tree.Tree, l []api.Header, parent []int, marked map[int]int) {
	t.Helper()
	top := 0
	bad, total := make([]bool, len(l)), make([]api.Wide, len(l))
	for i, h := range l {
		total[i] = pow.Work(h.Bits)
		bad[i] = marked[i] > 0
		if i > 0 {
			total[i] = target.Sum(total[i], total[parent[i]])
			bad[i] = bad[i] || bad[parent[i]]
		}
		if !bad[i] && wide.Compare(total[i], total[top]) > 0 {
			top = i
		}
		n, _ := x.Node(block.Hash(h))
		if n.Total != total[i] || n.Seen != i || x.Bad(block.Hash(h)) != bad[i] || n.Marked != (marked[i] > 0) {
			t.Fatal(i, n)
		}
	}
	best(t, x, l[top])
	i, j := len(l)-1, max(0, len(l)-5)
	var path []api.Hash
	for k := i; k >= 0; k = parent[k] {
		path = append([]api.Hash{block.Hash(l[k])}, path...)
	}
	other := x.Path(block.Hash(l[j]))
	same := 0
	for same < min(len(path), len(other)) && path[same] == other[same] {
		same++
	}
	if got, e := x.Fork(block.Hash(l[i]), block.Hash(l[j])); got != path[same-1] || e != api.OK || !slices.Equal(x.Path(block.Hash(l[i])), path) || x.Len() != len(l) {
		t.Fatal(i, j, e)
	}
}

// P26.1, P26.2, P26.3
func TestNone(t *testing.T) {
	for _, x := range []*tree.Tree{nil, new(tree.Tree)} {
		_, e := x.Add(root())
		_, f := x.At(api.Hash{}, 0)
		_, g := x.Fork(api.Hash{}, api.Hash{})
		for i, e := range []api.Errno{e, f, g, x.Mark(api.Hash{})} {
			if e != api.ErrNil {
				t.Error(i, e)
			}
		}
		n, is := x.Node(api.Hash{})
		if n != (api.Node{}) || is || x.Bad(api.Hash{}) || x.Best() != (api.Hash{}) || x.Path(api.Hash{}) != nil || x.Behind(api.Hash{}) != nil || x.Len() != 0 || x.Copy() != nil {
			t.Error("none")
		}
	}
}

// P26.4
func TestApart(t *testing.T) {
	x, a, b, c, d := example(t)
	y := x.Copy()
	mark(t, y, b, api.OK)
	add(t, y, child(c, 9, easy))
	best(t, x, d)
	add(t, x, child(d, 9, easy))
	mark(t, x, c, api.OK)
	if x.Bad(block.Hash(b)) || y.Bad(block.Hash(c)) || x.Len() != 5 || y.Len() != 5 {
		t.Error("shared")
	}
	path, behind := x.Path(block.Hash(d)), x.Behind(block.Hash(a))
	path[0], behind[0] = api.Hash{}, api.Hash{}
	if x.Path(block.Hash(d))[0] != block.Hash(a) || x.Behind(block.Hash(a))[0] != block.Hash(b) {
		t.Error("shared")
	}
}
