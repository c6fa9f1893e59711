package log_test

import (
	"math/rand"
	"slices"
	"strings"
	"testing"

	"purser/api"
	"purser/disk"
	"purser/log"
	"purser/manifest"
	"purser/segment"
)

func one(text string) []api.Record { return []api.Record{{Kind: 1, Payload: []byte(text)}} }

// twenty is a group of which two take 116 bytes.
func twenty() []api.Record { return one(strings.Repeat("x", 20)) }

func made(t *testing.T, room int) *disk.Disk {
	t.Helper()
	d, e := disk.New(room)
	if e != api.OK {
		t.Fatal(e)
	}
	return d
}

func opened(t *testing.T, d *disk.Disk, size int) *log.Log {
	t.Helper()
	l, e := log.Open(d, size)
	if e != api.OK {
		t.Fatal(e)
	}
	return l
}

func is(t *testing.T, what string, got, want api.Errno) {
	t.Helper()
	if got != want {
		t.Errorf("%s: error %d, not %d", what, got, want)
	}
}

// stands tells of a log with another manifest, or other groups.
func stands(t *testing.T, l *log.Log, m api.Manifest, bytes int, groups [][]api.Record) {
	t.Helper()
	if !manifest.Same(l.Manifest(), m) || l.Bytes() != bytes || l.Count() != len(groups) || !segment.Same(l.Groups(), groups) {
		t.Errorf("%v, %d bytes, %d groups; not %v, %d, %d", l.Manifest(), l.Bytes(), l.Count(), m, bytes, len(groups))
	}
}

// P19.1, P19.2, P19.4
func TestExample(t *testing.T) {
	d := made(t, 1000)
	l := opened(t, d, 100)
	stands(t, l, api.Manifest{Open: 1, Next: 1}, 0, nil)
	if !slices.Equal(d.Names(), []string{"manifest", "seg.1"}) || d.Operations() != 5 {
		t.Error(d.Names(), d.Operations())
	}
	is(t, "append", l.Append(twenty()), api.OK)
	stands(t, l, api.Manifest{Open: 1, Next: 1}, 58, [][]api.Record{twenty()})
	if d.Operations() != 7 {
		t.Error(d.Operations())
	}
	is(t, "append", l.Append(twenty()), api.OK)
	two := [][]api.Record{twenty(), twenty()}
	m := api.Manifest{Parts: []api.Part{{Segment: 1, First: 1, Groups: 2, Bytes: 116}}, Open: 2, Next: 3}
	stands(t, l, m, 0, two)
	before := d.Operations()
	stands(t, opened(t, d, 100), m, 0, two)
	stands(t, opened(t, d, 1<<25), m, 0, two)
	if d.Operations() != before {
		t.Error("opening a whole log writes nothing")
	}
	is(t, "none", l.Append(nil), api.ErrSegment)
	_, e := log.Open(d, 63)
	is(t, "63", e, api.ErrLog)
	_, e = log.Open(d, 64)
	is(t, "64", e, api.OK)
	_, e = log.Open(d, 1<<25+1)
	is(t, "2^25 + 1", e, api.ErrLog)
	_, e = log.Open(nil, 0)
	is(t, "nil", e, api.ErrNil)
	_, e = log.Open(new(disk.Disk), 64)
	is(t, "zero disk", e, api.ErrNil)
}

// P19.2
func TestSize(t *testing.T) {
	for size, closed := range map[int]int{115: 1, 116: 1, 117: 0} {
		l := opened(t, made(t, 1000), size)
		l.Append(twenty())
		l.Append(twenty())
		if len(l.Manifest().Parts) != closed {
			t.Error(size, l.Manifest())
		}
	}
}

// P19.2
func TestAppendWrong(t *testing.T) {
	d := made(t, 1000)
	l := opened(t, d, 64)
	before := d.Operations()
	for i, records := range [][]api.Record{nil, {}, {{Kind: 255}}, {{Kind: -1}}, {{Kind: 256}}, {{Kind: 1, Payload: make([]byte, 200001)}}} {
		if e := l.Append(records); e != api.ErrSegment {
			t.Error(i, e)
		}
	}
	stands(t, l, api.Manifest{Open: 1, Next: 1}, 0, nil)
	if d.Operations() != before {
		t.Error(d.Operations())
	}
}

// P19.2, P19.3
func TestClose(t *testing.T) {
	d := made(t, 10000)
	l := opened(t, d, 1000)
	is(t, "nothing to close", l.Close(), api.OK)
	stands(t, l, api.Manifest{Open: 1, Next: 1}, 0, nil)
	var groups [][]api.Record
	for i := range 3 {
		for range i + 1 {
			g := one(strings.Repeat("y", 7*i))
			is(t, "append", l.Append(g), api.OK)
			groups = append(groups, g)
		}
		is(t, "close", l.Close(), api.OK)
	}
	m := api.Manifest{Parts: []api.Part{{Segment: 1, First: 1, Groups: 1, Bytes: 38}, {Segment: 2, First: 2, Groups: 2, Bytes: 90}, {Segment: 3, First: 4, Groups: 3, Bytes: 156}}, Open: 4, Next: 7}
	stands(t, l, m, 0, groups)
	is(t, "append", l.Append(one("z")), api.OK)
	groups = append(groups, one("z"))
	stands(t, l, m, 39, groups)
	l = opened(t, d, 64)
	stands(t, l, m, 39, groups)
	is(t, "append", l.Append(one("")), api.OK)
	m.Parts = append(m.Parts, api.Part{Segment: 4, First: 7, Groups: 2, Bytes: 77})
	m.Open, m.Next = 5, 9
	stands(t, l, m, 0, append(groups, one("")))
	if !slices.Equal(d.Names(), []string{"manifest", "seg.1", "seg.2", "seg.3", "seg.4", "seg.5"}) {
		t.Error(d.Names())
	}
}

// P19.3
func TestMaxParts(t *testing.T) {
	d := made(t, 1<<20)
	l := opened(t, d, 64)
	for i := range 1000 {
		if e := l.Append(twenty()); e != api.OK {
			t.Fatal(i, e)
		}
		if e := l.Close(); e != api.OK {
			t.Fatal(i, e)
		}
	}
	m := l.Manifest()
	if len(m.Parts) != 1000 || m.Open != 1001 {
		t.Fatal(len(m.Parts), m.Open)
	}
	is(t, "nothing to close", l.Close(), api.OK)
	is(t, "append", l.Append(twenty()), api.OK)
	is(t, "append beyond the size", l.Append(twenty()), api.OK)
	is(t, "close", l.Close(), api.ErrLog)
	if !manifest.Same(l.Manifest(), m) || l.Bytes() != 116 || l.Count() != 1002 {
		t.Error(l.Bytes(), l.Count())
	}
	if again := opened(t, d, 64); again.Count() != 1002 || again.Bytes() != 116 {
		t.Error(again.Count(), again.Bytes())
	}
}

// P19.1
func TestStart(t *testing.T) {
	d := made(t, 1000)
	d.Create("seg.1")
	d.Append("seg.1", []byte("left over"))
	d.Create("manifest.new")
	stands(t, opened(t, d, 64), api.Manifest{Open: 1, Next: 1}, 0, nil)
	if n, e := d.Size("seg.1"); n != 0 || e != api.OK || !slices.Equal(d.Names(), []string{"manifest", "seg.1"}) {
		t.Error(n, e, d.Names())
	}
	small := made(t, 10)
	_, e := log.Open(small, 64)
	is(t, "full", e, api.ErrFull)
	d.Fall(api.Fall{})
	_, e = log.Open(d, 64)
	is(t, "down", e, api.ErrDown)
	_, e = log.Open(d, 63)
	is(t, "size ahead of down", e, api.ErrLog)
}

// P19.1
func TestOpenWrong(t *testing.T) {
	whole := made(t, 10000)
	l := opened(t, whole, 1000)
	for range 2 {
		l.Append(twenty())
		l.Append(twenty())
		l.Close()
	}
	l.Append(one("open"))
	third, _ := segment.Encode(3, twenty())
	for i, x := range []struct {
		damage func(d *disk.Disk)
		want   api.Errno
	}{
		{func(d *disk.Disk) {}, api.OK},
		{func(d *disk.Disk) { d.Remove("seg.1") }, api.ErrLog},
		{func(d *disk.Disk) { d.Remove("seg.2") }, api.ErrLog},
		{func(d *disk.Disk) { d.Truncate("seg.2", 115) }, api.ErrLog},
		{func(d *disk.Disk) { d.Truncate("seg.2", 58) }, api.ErrLog},
		{func(d *disk.Disk) { d.Append("seg.1", []byte("x")) }, api.ErrLog},
		{func(d *disk.Disk) { d.Append("seg.1", third) }, api.ErrLog},
		{func(d *disk.Disk) { d.Rename("seg.2", "seg.1") }, api.ErrLog},
		{func(d *disk.Disk) { d.Remove("seg.2"); d.Create("seg.2"); d.Append("seg.2", make([]byte, 116)) }, api.ErrLog},
		{func(d *disk.Disk) { d.Truncate("manifest", 5) }, api.ErrManifest},
		{func(d *disk.Disk) { d.Append("manifest", []byte("x")) }, api.ErrManifest},
		{func(d *disk.Disk) { d.Remove("manifest") }, api.OK},
		{func(d *disk.Disk) { d.Remove("seg.3") }, api.OK},
	} {
		d := whole.Copy()
		x.damage(d)
		if l, e := log.Open(d, 1000); e != x.want || (l == nil) != (e != api.OK) {
			t.Error(i, e)
		}
	}
	d := whole.Copy()
	m := l.Manifest()
	m.Parts[1].Groups, m.Next = 3, 6
	manifest.Save(d, m)
	_, e := log.Open(d, 1000)
	is(t, "more groups than there are", e, api.ErrLog)
	d = whole.Copy()
	d.Remove("seg.3")
	l = opened(t, d, 1000)
	if l.Count() != 4 || l.Bytes() != 0 || !slices.Contains(d.Names(), "seg.3") {
		t.Error(l.Count(), d.Names())
	}
}

// P19.1
func TestCutsTail(t *testing.T) {
	d := made(t, 1000)
	l := opened(t, d, 500)
	l.Append(one("a"))
	l.Append(one("b"))
	b, _ := segment.Encode(3, one("c"))
	wrong, _ := segment.Encode(4, one("c"))
	for i, tail := range [][]byte{b[:1], b[:len(b)-1], wrong, []byte("anything")} {
		c := d.Copy()
		c.Append("seg.1", tail)
		before := c.Operations()
		again := opened(t, c, 500)
		if n, _ := c.Size("seg.1"); n != l.Bytes() || c.Operations() != before+2 {
			t.Error(i, n, c.Operations()-before)
		}
		stands(t, again, l.Manifest(), l.Bytes(), l.Groups())
		c.Fall(api.Fall{})
		c.Boot()
		is(t, "append", opened(t, c, 500).Append(one("c")), api.OK)
		stands(t, opened(t, c, 500), l.Manifest(), l.Bytes()+len(b), [][]api.Record{one("a"), one("b"), one("c")})
	}
	c := d.Copy()
	c.Append("seg.1", b)
	stands(t, opened(t, c, 500), l.Manifest(), l.Bytes()+len(b), [][]api.Record{one("a"), one("b"), one("c")})
}

// P19.2, P19.3, P19.6
func TestFull(t *testing.T) {
	for room := 100; room < 400; room++ {
		d := made(t, room)
		l := opened(t, d, 100)
		var groups [][]api.Record
		for i := range 12 {
			g := one(strings.Repeat("f", 1+i*7%31))
			left, names := d.Left(), d.Names()
			m, bytes := l.Manifest(), l.Bytes()
			switch e := l.Append(g); e {
			case api.OK:
				groups = append(groups, g)
			case api.ErrFull:
				stands(t, l, m, bytes, groups)
				if d.Left() != left || !slices.Equal(d.Names(), names) {
					t.Fatal(room, i)
				}
			default:
				t.Fatal(room, i, e)
			}
			m, bytes = l.Manifest(), l.Bytes()
			left, names = d.Left(), d.Names()
			if e := l.Close(); i%3 == 2 && e == api.ErrFull {
				stands(t, l, m, bytes, groups)
				if d.Left() != left || !slices.Equal(d.Names(), names) {
					t.Fatal(room, i)
				}
			}
			stands(t, opened(t, d, 100), l.Manifest(), l.Bytes(), groups)
		}
		if len(groups) == 12 && room < 300 {
			t.Error("never full")
		}
		is(t, "one more", func() api.Errno {
			if d.Left() < 38 {
				return api.OK
			}
			return l.Append(one(""))
		}(), api.OK)
	}
}

// P19.2
func TestFullClosing(t *testing.T) {
	d := made(t, 39+25+5*23)
	l := opened(t, d, 64)
	left := d.Left()
	is(t, "append", l.Append(one(strings.Repeat("g", left-38-1))), api.OK)
	if l.Count() != 1 || l.Bytes() != left-1 || l.Manifest().Open != 1 || !slices.Equal(d.Names(), []string{"manifest", "seg.1"}) {
		t.Error(l.Count(), l.Bytes(), l.Manifest(), d.Names())
	}
	is(t, "close", l.Close(), api.ErrFull)
	is(t, "append", l.Append(one("")), api.ErrFull)
	if again := opened(t, d, 64); again.Count() != 1 {
		t.Error(again.Count())
	}
}

// P19.6
func TestCrashes(t *testing.T) {
	r := rand.New(rand.NewSource(19))
	for round := range 4000 {
		d := made(t, 2000)
		var sure [][]api.Record // those in the log for certain
		var maybe []api.Record  // the one that was being appended
		l, e := log.Open(d, 64+r.Intn(100))
		for step := range 12 {
			if e == api.OK && r.Intn(3) == 0 {
				d.Arm(api.Fall{At: 1 + r.Intn(9), Keep: []int{r.Intn(80), r.Intn(80), r.Intn(80), r.Intn(80)}, File: r.Intn(4), Place: r.Intn(60), Bits: r.Uint32() >> r.Intn(32), Done: r.Intn(2) == 0})
			}
			maybe = nil
			if r.Intn(4) == 0 {
				e = l.Close()
			} else {
				g := one(strings.Repeat("c", r.Intn(40)))
				if e = l.Append(g); e == api.OK {
					sure = append(sure, g)
				} else {
					maybe = g
				}
			}
			for e == api.ErrDown {
				d.Boot()
				if r.Intn(3) == 0 {
					d.Arm(api.Fall{At: 1 + r.Intn(4), Keep: []int{r.Intn(80), r.Intn(80), r.Intn(80), r.Intn(80)}, Done: r.Intn(2) == 0})
				}
				if l, e = log.Open(d, 64+r.Intn(100)); (e == api.OK) != d.Up() {
					t.Fatal(round, step, e)
				}
			}
			if e != api.OK {
				t.Fatal(round, step, e)
			}
			if l.Count() == len(sure)+1 && maybe != nil {
				sure = append(sure, maybe)
			}
			if !segment.Same(l.Groups(), sure) {
				t.Fatal(round, step, l.Count(), len(sure))
			}
		}
	}
}

// P19.6
func TestCrashAtEveryOperation(t *testing.T) {
	for at := 1; at <= 12; at++ {
		for _, done := range []bool{false, true} {
			for keep := range 70 {
				d := made(t, 2000)
				l := opened(t, d, 64)
				l.Append(one("first"))
				d.Create("seg.2")
				d.Arm(api.Fall{At: at, Keep: []int{keep, keep, keep, keep}, Done: done})
				e := l.Append(twenty()) // closes the segment
				if (e == api.OK) != d.Up() || e != api.OK && e != api.ErrDown {
					t.Fatal(at, done, keep, e)
				}
				d.Boot()
				l, f := log.Open(d, 64)
				if (f == api.OK) != d.Up() {
					t.Fatal(at, done, keep, f)
				}
				for f == api.ErrDown { // the crash was still armed
					d.Boot()
					l, f = log.Open(d, 64)
				}
				if f != api.OK || l.Count() < 1 || l.Count() > 2 || e == api.OK && l.Count() != 2 {
					t.Fatal(at, done, keep, e, f)
				}
				if e := l.Append(one("more")); e != api.OK && e != api.ErrDown {
					t.Fatal(at, done, keep, e)
				}
			}
		}
	}
}

// P19.1 to P19.4
func TestNone(t *testing.T) {
	for _, l := range []*log.Log{nil, new(log.Log)} {
		if l.Append(nil) != api.ErrNil || l.Close() != api.ErrNil || l.Groups() != nil || l.Count() != 0 || l.Bytes() != 0 || !manifest.Same(l.Manifest(), api.Manifest{}) {
			t.Error("none")
		}
	}
}

// P19.5
func TestApart(t *testing.T) {
	d := made(t, 1000)
	l := opened(t, d, 64)
	g := []api.Record{{Kind: 1, Payload: []byte("abc")}, {Kind: 2, Payload: []byte("def")}}
	l.Append(g)
	l.Close()
	g[0].Payload[0] = 'X'
	g[1] = api.Record{}
	want := [][]api.Record{{{Kind: 1, Payload: []byte("abc")}, {Kind: 2, Payload: []byte("def")}}}
	got := l.Groups()
	if !segment.Same(got, want) {
		t.Error(got)
	}
	got[0][0].Payload[1] = 'Y'
	got[0][1].Kind = 9
	m := l.Manifest()
	if len(m.Parts) != 1 {
		t.Fatal(m)
	}
	m.Parts[0].Bytes = 1
	if !segment.Same(l.Groups(), want) || l.Manifest().Parts[0].Bytes != 57 {
		t.Error(l.Groups(), l.Manifest())
	}
}
