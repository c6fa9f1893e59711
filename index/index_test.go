package index_test

import (
	"bytes"
	"math/rand"
	"slices"
	"testing"

	"purser/api"
	"purser/coin"
	"purser/index"
)

func point(n int) api.Outpoint {
	return api.Outpoint{Tx: api.Hash{byte(n % 4), 31: byte(n % 3)}, N: uint32(n % 5)}
}

func version(p, made int, script string) api.Version {
	return api.Version{Point: point(p), Made: made, Value: int64(p + made), Script: []byte(script), Base: p%2 == 0}
}

func is(t *testing.T, what string, got, want api.Errno) {
	t.Helper()
	if got != want {
		t.Errorf("%s: error %d, not %d", what, got, want)
	}
}

func same(t *testing.T, what string, got []api.Version, want ...api.Version) {
	t.Helper()
	if !coin.SameVersions(got, want) {
		t.Errorf("%s: %v, not %v", what, got, want)
	}
}

// at tells of an outpoint that has another version at a height; none is told by a negative Made.
func at(t *testing.T, x *index.Index, p, height int, want api.Version) {
	t.Helper()
	v, there := x.At(point(p), height)
	if there != (want.Made >= 0) || there && !coin.SameVersions([]api.Version{v}, []api.Version{want}) || !there && !coin.SameVersions([]api.Version{v}, []api.Version{{}}) {
		t.Error(p, height, v, there)
	}
}

// P21.1, P21.2
func TestExample(t *testing.T) {
	x := index.New()
	none := api.Version{Made: -1}
	first, second := version(1, 3, "s"), version(1, 5, "s")
	is(t, "put", x.Put(first), api.OK)
	is(t, "again", x.Put(first), api.ErrIndex)
	is(t, "second", x.Put(second), api.OK)
	by := api.Hash{9}
	is(t, "end", x.End(point(1), 3, 4, by), api.OK)
	ended := first
	ended.Spent, ended.Spender = 4, by
	at(t, x, 1, 2, none)
	at(t, x, 1, 3, ended)
	at(t, x, 1, 4, none)
	at(t, x, 1, 5, second)
	same(t, "history", x.History(point(1)), ended, second)
	is(t, "back", x.Back(point(1), 5), api.ErrIndex)
	is(t, "back", x.Back(point(1), 3), api.OK)
	same(t, "of", x.Of([]byte("s"), 9), first, second)
	at(t, x, 1, 9, second)
	at(t, x, 1, 4, first)
	if x.Len() != 2 {
		t.Error(x.Len())
	}
}

// P21.1
func TestWrong(t *testing.T) {
	x := index.New()
	for i, change := range []func(v *api.Version){func(v *api.Version) { v.Made = -1 }, func(v *api.Version) { v.Spent = 4 }, func(v *api.Version) { v.Spent = -1 }, func(v *api.Version) { v.Made, v.Spent = -5, -3 }} {
		v := version(1, 5, "s")
		change(&v)
		if e := x.Put(v); e != api.ErrIndex || x.Len() != 0 {
			t.Error(i, e)
		}
	}
	spent := version(2, 5, "s")
	spent.Spent, spent.Spender = 5, api.Hash{1}
	is(t, "made and spent at once", x.Put(spent), api.OK)
	open := version(1, 5, "s")
	is(t, "open", x.Put(open), api.OK)
	is(t, "made at 0", x.Put(version(3, 0, "s")), api.OK)
	other := open
	other.Script, other.Value = []byte("other"), 99
	is(t, "same outpoint, same height", x.Put(other), api.ErrIndex)
	for i, e := range []api.Errno{
		x.End(point(1), 4, 9, api.Hash{}), x.End(point(4), 5, 9, api.Hash{}), x.End(point(1), 5, 4, api.Hash{}), x.End(point(1), 5, 0, api.Hash{}), x.End(point(1), 5, -1, api.Hash{}), x.End(point(2), 5, 9, api.Hash{}), x.End(point(3), 0, 0, api.Hash{}),
		x.Back(point(1), 5), x.Back(point(1), 4), x.Back(point(4), 5), x.Drop(point(1), 4), x.Drop(point(4), 5), x.Drop(point(1), -1),
	} {
		if e != api.ErrIndex {
			t.Error(i, e)
		}
	}
	same(t, "unchanged", x.Every(), open, spent, version(3, 0, "s"))
	is(t, "end at the same height", x.End(point(1), 5, 5, api.Hash{}), api.OK)
	is(t, "end at 1", x.End(point(3), 0, 1, api.Hash{}), api.OK)
	is(t, "drop of a spent one", x.Drop(point(2), 5), api.OK)
	is(t, "drop again", x.Drop(point(2), 5), api.ErrIndex)
}

// P21.1, P21.2
func TestNone(t *testing.T) {
	for _, x := range []*index.Index{nil, new(index.Index)} {
		for i, e := range []api.Errno{x.Put(version(1, -1, "")), x.End(point(1), 0, 0, api.Hash{}), x.Back(point(1), 0), x.Drop(point(1), 0)} {
			if e != api.ErrNil {
				t.Error(i, e)
			}
		}
		v, there := x.At(point(1), 0)
		if there || v.Script != nil || x.History(point(1)) != nil || x.All(0) != nil || x.Of(nil, 0) != nil || x.Scripts(0) != nil || x.Every() != nil || x.Len() != 0 || x.Copy() != nil {
			t.Error("none")
		}
	}
	x := index.New()
	if len(x.All(0)) != 0 || len(x.Scripts(0)) != 0 || len(x.Every()) != 0 || x.Len() != 0 || x.Copy().Len() != 0 {
		t.Error("empty")
	}
}

// model is an index that is a list.
type model []api.Version

func (m model) find(p api.Outpoint, made int) int {
	return slices.IndexFunc(m, func(v api.Version) bool { return v.Point == p && v.Made == made })
}

// filtered are those versions that are wanted, in order.
func (m model) filtered(want func(v api.Version) bool) []api.Version {
	var l []api.Version
	for _, v := range m {
		if want(v) {
			l = append(l, v)
		}
	}
	slices.SortFunc(l, coin.Compare)
	return l
}

func there(v api.Version, height int) bool {
	return v.Made <= height && (v.Spent == 0 || v.Spent > height)
}

// agrees tells of an index that answers otherwise than the list.
func agrees(t *testing.T, x *index.Index, m model) {
	t.Helper()
	same(t, "every", x.Every(), m.filtered(func(api.Version) bool { return true })...)
	if x.Len() != len(m) {
		t.Error(x.Len(), len(m))
	}
	for height := -1; height < 12; height++ {
		all := m.filtered(func(v api.Version) bool { return there(v, height) })
		same(t, "all", x.All(height), all...)
		var scripts [][]byte
		for _, v := range all {
			scripts = append(scripts, v.Script)
		}
		slices.SortFunc(scripts, bytes.Compare)
		scripts = slices.CompactFunc(scripts, bytes.Equal)
		if !slices.EqualFunc(x.Scripts(height), scripts, bytes.Equal) {
			t.Errorf("scripts at %d: %q, not %q", height, x.Scripts(height), scripts)
		}
		together := 0
		for _, s := range append(scripts, []byte("absent")) {
			of := x.Of(s, height)
			together += len(of)
			same(t, "of", of, m.filtered(func(v api.Version) bool { return there(v, height) && bytes.Equal(v.Script, s) })...)
		}
		if together != len(all) {
			t.Error(together, len(all))
		}
		for p := range 60 {
			history := m.filtered(func(v api.Version) bool { return v.Point == point(p) })
			same(t, "history", x.History(point(p)), history...)
			want := api.Version{Made: -1}
			for _, v := range history {
				if there(v, height) {
					want = v
				}
			}
			at(t, x, p, height, want)
		}
	}
}

// P21.2, P21.4
func TestModel(t *testing.T) {
	r := rand.New(rand.NewSource(21))
	scripts := []string{"", "a", "ab", "b", "\x00", "\xFF", "aa"}
	x, m := index.New(), model{}
	var kept *index.Index
	var keptModel model
	for step := range 3000 {
		p, made, spent := r.Intn(60), r.Intn(9), r.Intn(12)
		by := api.Hash{byte(r.Intn(5))}
		i := m.find(point(p), made)
		switch r.Intn(5) {
		case 0, 1:
			v := version(p, made, scripts[r.Intn(len(scripts))])
			if r.Intn(5) == 0 {
				v.Spent, v.Spender = spent, by
			}
			fine := i < 0 && (v.Spent == 0 || v.Spent >= made)
			if e := x.Put(v); (e == api.OK) != fine {
				t.Fatal(step, e)
			}
			if fine {
				m = append(m, v)
			}
		case 2:
			fine := i >= 0 && m[i].Spent == 0 && spent >= 1 && spent >= made
			if e := x.End(point(p), made, spent, by); (e == api.OK) != fine {
				t.Fatal(step, e)
			}
			if fine {
				m[i].Spent, m[i].Spender = spent, by
			}
		case 3:
			fine := i >= 0 && m[i].Spent != 0
			if e := x.Back(point(p), made); (e == api.OK) != fine {
				t.Fatal(step, e)
			}
			if fine {
				m[i].Spent, m[i].Spender = 0, api.Hash{}
			}
		case 4:
			if e := x.Drop(point(p), made); (e == api.OK) != (i >= 0) {
				t.Fatal(step, e)
			}
			if i >= 0 {
				m = slices.Delete(m, i, i+1)
			}
		}
		if step%200 == 0 {
			agrees(t, x, m)
			if kept != nil {
				agrees(t, kept, keptModel)
			}
			kept, keptModel = x.Copy(), slices.Clone(m)
		}
	}
	if len(m) < 50 {
		t.Error(len(m))
	}
}

// P21.4
func TestOrderOfAdding(t *testing.T) {
	r := rand.New(rand.NewSource(22))
	var l []api.Version
	for p := range 60 {
		for made := range 10 {
			l = append(l, version(p, made, string(rune('a'+r.Intn(3)))))
		}
	}
	a, b := index.New(), index.New()
	for _, i := range r.Perm(len(l)) {
		a.Put(l[i])
	}
	for _, v := range l {
		b.Put(v)
	}
	b.Put(version(1, 99, "z"))
	b.Drop(point(1), 99)
	b.End(point(7), 3, 8, api.Hash{1})
	b.Back(point(7), 3)
	agrees(t, a, l)
	agrees(t, b, l)
}

// P21.3
func TestApart(t *testing.T) {
	x := index.New()
	v := version(1, 2, "script")
	want := version(1, 2, "script")
	x.Put(v)
	v.Script[0] = 'X'
	c := x.Copy()
	c.Drop(point(1), 2)
	x.Copy().End(point(1), 2, 3, api.Hash{})
	one, _ := x.At(point(1), 2)
	for _, b := range [][]byte{one.Script, x.History(point(1))[0].Script, x.All(5)[0].Script, x.Of([]byte("script"), 5)[0].Script, x.Scripts(5)[0], x.Every()[0].Script} {
		b[1] = 'Y'
	}
	same(t, "shared", x.Every(), want)
	if c.Len() != 0 || x.Len() != 1 {
		t.Error(c.Len(), x.Len())
	}
	same(t, "shared", x.Of([]byte("script"), 5), want)
}

// P21.2: a great index is still asked in time, though its versions come in order.
func TestMany(t *testing.T) {
	const many = 40000
	x := index.New()
	at := func(i int) api.Outpoint {
		return api.Outpoint{Tx: api.Hash{byte(i >> 16), byte(i >> 8), byte(i)}}
	}
	for i := range many {
		if e := x.Put(api.Version{Point: at(i), Made: i, Script: []byte{byte(i % 7)}}); e != api.OK {
			t.Fatal(i, e)
		}
		if v, there := x.At(at(i/2), i); !there || v.Made != i/2 {
			t.Fatal(i)
		}
	}
	if x.Len() != many || len(x.Scripts(many)) != 7 || len(x.All(many)) != many {
		t.Error(x.Len())
	}
	for i := many - 1; i >= 0; i-- {
		if e := x.Drop(at(i), i); e != api.OK {
			t.Fatal(i, e)
		}
	}
	if x.Len() != 0 || len(x.Every()) != 0 {
		t.Error(x.Len())
	}
}
