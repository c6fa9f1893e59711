package node_test

import (
	"bytes"
	"math/rand"
	"slices"
	"testing"

	"purser/api"
	"purser/chain"
	"purser/disk"
	"purser/log"
	"purser/node"
)

// P30.1, P30.2
func TestExample(t *testing.T) {
	d := made(t, 100000)
	n := opened(t, d, 1000)
	g := genesis().hash()
	replies(t, n, []byte{0x0A}, reply(api.OK, []byte{0, 0, 0, 0}, g[:]))
	replies(t, n, nil, []byte{0x22, 1})
	replies(t, n, []byte{1}, []byte{0x18, 1})
	if n.Count() != 1 || n.Shut() {
		t.Error(n.Count(), n.Shut())
	}
	other := params()
	other.Time++
	if n, e := node.Open(d, other, 1000); n != nil || e != api.ErrParams {
		t.Error(e)
	}
	if n, e := node.Open(d, params(), 1); n != nil || e != api.ErrLog {
		t.Error(e)
	}
	opened(t, d, 1000)
}

// P30.1
func TestOpen(t *testing.T) {
	wrong := params()
	wrong.Every = 0
	if n, e := node.Open(nil, wrong, 1); n != nil || e != api.ErrNil {
		t.Error(e)
	}
	d := made(t, 100000)
	if n, e := node.Open(d, wrong, 1); n != nil || e != api.ErrPow {
		t.Error(e)
	}
	if n, e := node.Open(new(disk.Disk), params(), 100); n != nil || e != api.ErrNil {
		t.Error(e)
	}
	for room := range 500 {
		small := made(t, room)
		n, e := node.Open(small, params(), 1000)
		if (n == nil) != (e != api.OK) || e != api.OK && e != api.ErrFull || e == api.OK && n.Count() != 1 {
			t.Fatal(room, e)
		}
	}
	first, _ := chain.First(params())
	l, _ := log.Open(d, 1000)
	l.Append(first)
	n := opened(t, d, 1000)
	if n.Count() != 1 {
		t.Error(n.Count())
	}
	a := genesis().next(1, 50)
	submits(t, n, api.StatusActive, a)
	l, _ = log.Open(d, 1000)
	groups := l.Groups()
	if len(groups) != 2 || len(groups[1]) != 2 || groups[1][0].Kind != api.KindBlock || !bytes.Equal(groups[1][0].Payload, a.bytes()) {
		t.Error(groups)
	}
	d.Fall(api.Fall{})
	if n, e := node.Open(d, params(), 1000); n != nil || e != api.ErrDown {
		t.Error(e)
	}
}

// P30.1
func TestOpenOthersLogs(t *testing.T) {
	first, _ := chain.First(params())
	joined := []api.Record{{Kind: api.KindJoined, Payload: make([]byte, 32)}}
	a := []api.Record{{Kind: api.KindBlock, Payload: genesis().next(1, 50).bytes()}}
	for i, x := range []struct {
		groups [][]api.Record
		want   api.Errno
	}{
		{nil, api.OK}, {[][]api.Record{first}, api.OK}, {[][]api.Record{first, a}, api.OK}, {[][]api.Record{first[:1]}, api.ErrParams}, {[][]api.Record{{first[1], first[0]}}, api.ErrParams}, {[][]api.Record{{first[0], first[1], first[1]}}, api.ErrParams}, {[][]api.Record{a}, api.ErrParams},
		{[][]api.Record{first, joined}, api.ErrNode}, {[][]api.Record{first, a, a}, api.ErrNode}, {[][]api.Record{a, joined}, api.ErrParams}, {[][]api.Record{first, first}, api.ErrNode}, {[][]api.Record{first, joined, a}, api.ErrNode},
	} {
		d := made(t, 100000)
		l, _ := log.Open(d, 1000)
		for _, g := range x.groups {
			if e := l.Append(g); e != api.OK {
				t.Fatal(i, e)
			}
		}
		if n, e := node.Open(d, params(), 1000); e != x.want || (n == nil) != (e != api.OK) {
			t.Error(i, e)
		}
	}
}

// P30.2
func TestCommands(t *testing.T) {
	d := made(t, 1000000)
	n := opened(t, d, 1000)
	c, _ := chain.New(params())
	g := genesis()
	a := g.next(1, 50)
	b := a.next(2, 50, spend(a.point(0, 0), 20, 25))
	far := b.next(3, 50).next(4, 50)
	greedy := b.next(5, 99)
	x := a.hash()
	id := b.point(1, 0)
	commands := [][]byte{
		a.command(), b.command(), b.command(), far.command(), greedy.command(), greedy.next(6, 50).command(), {1, 2, 3}, {0x0A}, {0x0B}, {0x0B, 0}, {3, 2, 0, 0, 0}, {3, 3, 0, 0, 0}, {5, 2, 0, 0, 0, 9, 0, 0, 0}, {7, 1, 0, 0, 0},
		slices.Concat([]byte{8}, x[:]), slices.Concat([]byte{8}, make([]byte, 32)), slices.Concat([]byte{9}, id.Tx[:]), slices.Concat([]byte{2}, id.Tx[:], []byte{1, 0, 0, 0, 2, 0, 0, 0}), slices.Concat([]byte{6}, id.Tx[:], []byte{0, 0, 0, 0, 2, 0, 0, 0}), {4, 2, 0, 0, 0, 1, 0x51}, {99}, {},
	}
	for i, command := range commands {
		before := n.Count()
		want := modelled(c, command)
		if got := n.Do(command); !bytes.Equal(got, want) {
			t.Errorf("%d: % x, not % x", i, got, want)
		}
		if changed := len(command) > 0 && command[0] == 1 && want[0] == 0 && want[1] == 0; n.Count() != before+map[bool]int{true: 1}[changed] {
			t.Error(i, n.Count(), before)
		}
	}
	if !bytes.Equal(n.Do(greedy.command()), reply(api.ErrKnown)) {
		t.Error("known")
	}
	hash := greedy.hash()
	m := opened(t, made(t, 1000000), 1000)
	submits(t, m, api.StatusActive, a, b)
	replies(t, m, greedy.command(), reply(api.OK, []byte{api.StatusMarked, 0, 1}, hash[:])) // ErrClaim is 256
	spots := []spot{g, a, b, far, greedy}
	if again := opened(t, d, 1000); !bytes.Equal(state(again.Chain(), spots), state(c, spots)) || again.Count() != n.Count() {
		t.Error("opened again")
	}
}

// P30.2
func TestCheckpoints(t *testing.T) {
	d := made(t, 1000000)
	n := opened(t, d, 1<<20)
	for i, want := range []string{"seg.2", "seg.2", "seg.3", "seg.3"} {
		replies(t, n, []byte{0x0B}, reply(api.OK))
		if names := d.Names(); names[len(names)-1] != want {
			t.Error(i, names)
		}
		if i == 1 {
			submits(t, n, api.StatusActive, genesis().next(1, 50))
		}
	}
	if opened(t, d, 1<<20).Count() != 2 {
		t.Error("count")
	}
}

// P30.2
func TestShut(t *testing.T) {
	for _, command := range [][]byte{genesis().next(1, 50).command(), {0x0B}} {
		d := made(t, 100000)
		n := opened(t, d, 1000)
		d.Arm(api.Fall{At: 1})
		replies(t, n, command, reply(api.ErrDown))
		if !n.Shut() {
			t.Error("not shut")
		}
		for _, x := range [][]byte{command, {0x0A}, nil, {99}} {
			replies(t, n, x, reply(api.ErrShut))
		}
		d.Boot()
		replies(t, n, []byte{0x0A}, reply(api.ErrShut))
		if n.Count() != 1 || n.Chain().Tip() != genesis().hash() {
			t.Error(n.Count())
		}
		if again := opened(t, d, 1000); again.Shut() || again.Count() != 1 {
			t.Error("opened again")
		}
	}
	// The manifest has all the parts that it may: a checkpoint is an error of the log.
	d := made(t, 1<<22)
	n := opened(t, d, 64)
	s := genesis()
	for i := range 999 {
		s = s.next(i, 0)
		submits(t, n, api.StatusActive, s)
	}
	replies(t, n, []byte{0x0B}, reply(api.OK))
	submits(t, n, api.StatusActive, s.next(5000, 0))
	if n.Count() != 1001 || n.Shut() {
		t.Error(n.Count())
	}
	replies(t, n, []byte{0x0B}, reply(api.ErrLog))
	replies(t, n, []byte{0x0A}, reply(api.ErrShut))
}

// P30.2, P30.5
func TestFull(t *testing.T) {
	great := opened(t, made(t, 100000), 300)
	var spots []spot
	s := genesis()
	for i := range 6 {
		s = s.next(i, 50)
		spots = append(spots, s)
	}
	full := 0
	for room := 500; room < 3000; room += 7 {
		d := made(t, room)
		n := opened(t, d, 300)
		done := 0
		for _, s := range spots {
			before, count, left := state(n.Chain(), spots), n.Count(), d.Left()
			got := n.Do(s.command())
			if bytes.Equal(got, reply(api.ErrFull)) {
				full++
				if n.Shut() || n.Count() != count || d.Left() != left || !bytes.Equal(state(n.Chain(), spots), before) {
					t.Fatal("changed")
				}
				replies(t, n, []byte{0x0A}, modelled(n.Chain(), []byte{0x0A}))
				if e, _, is := node.Parse(n.Do([]byte{0x0B})); !is || e != api.OK && e != api.ErrFull || n.Shut() {
					t.Fatal(e)
				}
				break
			}
			if got[0] != 0 {
				t.Fatal(got)
			}
			done++
		}
		if again := opened(t, d, 300); again.Count() != 1+done {
			t.Fatal(again.Count(), done)
		}
	}
	if full < 10 {
		t.Error(full)
	}
	submits(t, great, api.StatusActive, spots...) // what was refused for the room alone
}

// heavy is a block behind another one that spends 34 of its outputs, and makes 50 of each.
func heavy(s spot, n int) spot {
	var outs []api.Out
	for range 50 {
		outs = append(outs, open(0))
	}
	txs := []api.Tx{base(len(s.path), n, outs...)}
	for i := 0; i < 34 && len(s.path) > 1; i++ {
		x := spend(s.point(0, i))
		x.Out = outs
		txs = append(txs, x)
	}
	return s.with(txs...)
}

// P30.2, P30.5
func TestTooGreatForAGroup(t *testing.T) {
	d := made(t, 1<<24)
	n := opened(t, d, 1<<20)
	a, b := genesis(), genesis()
	spots := []spot{a}
	for i := range 19 {
		a = a.next(i, 1)
		submits(t, n, api.StatusActive, a)
		b = heavy(b, 100+i)
		submits(t, n, api.StatusSide, b)
		spots = append(spots, a, b)
	}
	last := heavy(b, 200)
	before, left := state(n.Chain(), spots), d.Left()
	replies(t, n, last.command(), reply(api.ErrSegment))
	if n.Shut() || n.Count() != 39 || d.Left() != left || !bytes.Equal(state(n.Chain(), spots), before) {
		t.Error("changed")
	}
	submits(t, n, api.StatusActive, a.next(300, 1))
	if opened(t, d, 1<<20).Count() != 40 {
		t.Error("count")
	}
	// The same with fewer blocks fits.
	m := opened(t, made(t, 1<<24), 1<<20)
	a, b = genesis(), genesis()
	for i := range 5 {
		a, b = a.next(i, 1), heavy(b, 100+i)
		submits(t, m, api.StatusActive, a)
		submits(t, m, api.StatusSide, b)
	}
	submits(t, m, api.StatusActive, heavy(b, 200))
}

// story is blocks in an order in which many things happen: orphans, reorganizations, marks.
func story() []spot {
	g := genesis()
	a1 := g.next(1, 50)
	a2 := a1.next(2, 50, spend(a1.point(0, 0), 10, 20))
	a3 := a2.next(3, 50)
	b1 := g.next(4, 40)
	b2 := b1.next(5, 30, spend(b1.point(0, 0), 40))
	b3 := b2.next(6, 50)
	b4 := b3.next(7, 50)
	c3 := a2.next(8, 99)
	c4 := c3.next(9, 50)
	e1 := g.next(10, 60)
	e2 := e1.next(11, 50)
	return []spot{a1, a3, a2, b1, c4, b3, b2, c3, b4, e2, e1, a3.next(12, 50), a3.next(12, 50).next(13, 50)}
}

// P30.5
func TestRandomCommands(t *testing.T) {
	r := rand.New(rand.NewSource(30))
	spots := story()
	for range 20 {
		n := opened(t, made(t, 1<<22), 64+r.Intn(2000))
		c, _ := chain.New(params())
		for step := range 60 {
			command := spots[min(len(spots)-1, r.Intn(3+step/4))].command()
			if kind := r.Intn(3); kind > 0 {
				command = []byte{byte(r.Intn(13))}
				for range r.Intn(12) {
					command = append(command, byte(r.Intn(4)))
				}
				if kind == 2 {
					id := spots[r.Intn(len(spots))].point(0, 0)
					command = slices.Concat([]byte{[]byte{2, 6, 9, 8}[r.Intn(4)]}, id.Tx[:], []byte{0, 0, 0, 0, byte(r.Intn(4)), 0, 0, 0}[:8*r.Intn(2)])
				}
			}
			want := modelled(c, command)
			if got := n.Do(command); !bytes.Equal(got, want) {
				t.Fatalf("% x: % x, not % x", command, got, want)
			}
		}
		if !bytes.Equal(state(n.Chain(), spots), state(c, spots)) {
			t.Fatal("another state")
		}
	}
}

// fall is a crash at one of the next operations.
func fall(r *rand.Rand, most int) api.Fall {
	f := api.Fall{At: 1 + r.Intn(most), File: r.Intn(6), Place: r.Intn(300), Bits: r.Uint32() >> r.Intn(32), Done: r.Intn(2) == 0}
	for range 8 {
		f.Keep = append(f.Keep, r.Intn(700)-20)
	}
	return f
}

// again opens a node on a disk that is down, however often it crashes on the way.
func again(t *testing.T, r *rand.Rand, d *disk.Disk) *node.Node {
	t.Helper()
	for {
		d.Boot()
		if r.Intn(3) == 0 {
			d.Arm(fall(r, 4))
		}
		n, e := node.Open(d, params(), 64+r.Intn(2000))
		switch e {
		case api.OK:
			return n
		case api.ErrDown:
		default:
			t.Fatal("open", e)
		}
	}
}

// P30.5
func TestCrashes(t *testing.T) {
	r := rand.New(rand.NewSource(31))
	spots := story()
	crashes, kept := 0, 0
	for range 400 {
		d := made(t, 1<<20)
		c, _ := chain.New(params())
		d.Arm(fall(r, 40))
		n, e := node.Open(d, params(), 64+r.Intn(2000))
		if e != api.OK {
			n = again(t, r, d)
		}
		for i := 0; i < len(spots); {
			command := spots[i].command()
			if r.Intn(4) == 0 {
				command = []byte{0x0B}
			}
			if r.Intn(4) == 0 {
				d.Arm(fall(r, 9))
			}
			got := n.Do(command)
			if !bytes.Equal(got, reply(api.ErrDown)) {
				if want := modelled(c, command); !bytes.Equal(got, want) {
					t.Fatalf("% x, not % x", got, want)
				}
				i += map[bool]int{true: 1}[len(command) > 1]
				continue
			}
			crashes++
			if !n.Shut() {
				t.Fatal("not shut")
			}
			n = again(t, r, d)
			after := c.Copy()
			modelled(after, command)
			switch now := state(n.Chain(), spots); {
			case bytes.Equal(now, state(c, spots)):
			case bytes.Equal(now, state(after, spots)):
				kept++
				c = after
				i++
			default:
				t.Fatal("neither with nor without the last block")
			}
		}
		if !bytes.Equal(state(n.Chain(), spots), state(c, spots)) || n.Count() < len(spots) {
			t.Fatal("another state")
		}
	}
	if crashes < 100 || kept < 10 || kept == crashes {
		t.Error(crashes, kept)
	}
}

// P30.2, P30.3
func TestNone(t *testing.T) {
	for _, n := range []*node.Node{nil, new(node.Node)} {
		for _, command := range [][]byte{nil, {0x0A}, {0x0B}, {1}} {
			replies(t, n, command, []byte{1, 0})
		}
		if n.Chain() != nil || n.Shut() || n.Count() != 0 {
			t.Error("none")
		}
	}
}

// P30.3
func TestParse(t *testing.T) {
	for reply, want := range map[string]struct {
		e    api.Errno
		data string
		is   bool
	}{
		"": {}, "\x00": {}, "\x01": {}, "\x00\x00": {api.OK, "", true}, "\x00\x00abc": {api.OK, "abc", true}, "\x22\x01": {api.ErrParse, "", true}, "\x22\x01a": {}, "\x01\x00": {api.ErrNil, "", true}, "\x01\x00\x00": {}, "\xFF\xFF": {65535, "", true}, "\x00\x01": {256, "", true},
	} {
		if e, data, is := node.Parse([]byte(reply)); e != want.e || string(data) != want.data || is != want.is || !is && data != nil {
			t.Errorf("%q: %d, %q, %v", reply, e, data, is)
		}
	}
}

// P30.4
func TestApart(t *testing.T) {
	d := made(t, 100000)
	n := opened(t, d, 1000)
	a := genesis().next(1, 50)
	command := a.command()
	n.Do(command)
	clear(command)
	clear(n.Do([]byte{7, 1, 0, 0, 0}))
	c := n.Chain()
	_, records, _ := c.Submit(a.next(2, 50).bytes())
	c.Replay(records)
	b, is := n.Chain().Block(a.hash())
	if n.Chain().Tip() != a.hash() || c.Tip() == a.hash() || !is || b.Txs[0].Out[0].Value != 50 {
		t.Error("shared")
	}
	raw := []byte{0, 0, 'a', 'b'}
	_, data, _ := node.Parse(raw)
	raw[2] = 'X'
	if string(data) != "ab" {
		t.Error(data)
	}
}
