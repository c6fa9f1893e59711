package manifest_test

import (
	"bytes"
	"slices"
	"testing"

	"purser/api"
	"purser/disk"
	"purser/manifest"
	"purser/octet"
	"purser/record"
)

func first() api.Manifest { return api.Manifest{Open: 1, Next: 1} }

func second() api.Manifest {
	return api.Manifest{Parts: []api.Part{{Segment: 1, First: 1, Groups: 3, Bytes: 100}}, Open: 2, Next: 4}
}

func third() api.Manifest {
	return api.Manifest{Parts: []api.Part{{Segment: 1, First: 1, Groups: 3, Bytes: 100}, {Segment: 5, First: 4, Groups: 1<<31 - 1, Bytes: 1 << 26}, {Segment: 6, First: 1<<31 + 3, Groups: 1, Bytes: 1}}, Open: 1 << 30, Next: 1<<31 + 4}
}

func many(n int) api.Manifest {
	m := first()
	for i := range n {
		m.Parts = append(m.Parts, api.Part{Segment: i + 1, First: uint64(2*i + 1), Groups: 2, Bytes: 50})
	}
	m.Open, m.Next = n+1, uint64(2*n+1)
	return m
}

func valid() []api.Manifest {
	return []api.Manifest{first(), {Open: 1 << 30, Next: 1}, second(), third(), many(1000)}
}

// encoding is a manifest's, valid or not.
func encoding(t *testing.T, m api.Manifest) []byte {
	t.Helper()
	var p octet.Pen
	p.Fixed(4, uint64(len(m.Parts)))
	for _, x := range m.Parts {
		p.Fixed(4, uint64(uint32(x.Segment)))
		p.Fixed(8, x.First)
		p.Fixed(4, uint64(uint32(x.Groups)))
		p.Fixed(4, uint64(uint32(x.Bytes)))
	}
	p.Fixed(4, uint64(uint32(m.Open)))
	p.Fixed(8, m.Next)
	return raw(t, 0, p.All())
}

func raw(t *testing.T, kind int, payload []byte) []byte {
	t.Helper()
	b, e := record.Encode(api.Record{Kind: kind, Payload: payload})
	if e != api.OK {
		t.Fatal(e)
	}
	return b
}

func invalid() []api.Manifest {
	l := []api.Manifest{{}, {Open: 0, Next: 1}, {Open: -1, Next: 1}, {Open: 1, Next: 2}, {Open: 1, Next: 0}, {Open: 1<<30 + 1, Next: 1}, many(1001)}
	for _, change := range []func(m *api.Manifest){
		func(m *api.Manifest) { m.Next++ }, func(m *api.Manifest) { m.Next-- }, func(m *api.Manifest) { m.Open = 6 }, func(m *api.Manifest) { m.Open = 5 }, func(m *api.Manifest) { m.Parts[0].Segment = 0 }, func(m *api.Manifest) { m.Parts[0].Segment = -1 },
		func(m *api.Manifest) { m.Parts[1].Segment = 1 }, func(m *api.Manifest) { m.Parts[1].Segment = 6 }, func(m *api.Manifest) { m.Parts[2].Segment = 5 }, func(m *api.Manifest) { m.Parts[0].First = 2; m.Parts[1].First++ },
		func(m *api.Manifest) { m.Parts[1].First++ }, func(m *api.Manifest) { m.Parts[0].Groups = 0 }, func(m *api.Manifest) { m.Parts[0].Groups = -1 }, func(m *api.Manifest) { m.Parts[0].Groups = 4 }, func(m *api.Manifest) { m.Parts[0].Bytes = 0 }, func(m *api.Manifest) { m.Parts[0].Bytes = -1 },
		func(m *api.Manifest) { m.Parts[1].Bytes = 1<<26 + 1 }, func(m *api.Manifest) { m.Parts[2].Groups, m.Next = 1<<31, 1<<32+3 }, func(m *api.Manifest) { m.Parts[2].Groups, m.Next = 0, 1<<31+3 }, func(m *api.Manifest) { m.Parts[2].Segment = 1 << 30 }, func(m *api.Manifest) { m.Parts = m.Parts[1:] },
	} {
		m := third()
		change(&m)
		l = append(l, m)
	}
	return l
}

// P18.1
func TestEncode(t *testing.T) {
	for i, m := range valid() {
		b, e := manifest.Encode(m)
		if !bytes.Equal(b, encoding(t, m)) || e != api.OK || manifest.Check(m) != api.OK {
			t.Error(i, e, manifest.Check(m))
		}
		if back, e := manifest.Decode(b); !manifest.Same(back, m) || e != api.OK {
			t.Error(i, e)
		}
	}
	for i, m := range invalid() {
		if b, e := manifest.Encode(m); b != nil || e != api.ErrManifest || manifest.Check(m) != api.ErrManifest {
			t.Error(i, e, manifest.Check(m))
		}
		if back, e := manifest.Decode(encoding(t, m)); e != api.ErrManifest || !manifest.Same(back, api.Manifest{}) {
			t.Error(i, e)
		}
	}
}

// P18.1
func TestDecodeWrong(t *testing.T) {
	good := encoding(t, second())
	payload := good[9 : len(good)-4]
	l := [][]byte{nil, append(slices.Clone(good), 0), raw(t, 1, payload), raw(t, 0, append(slices.Clone(payload), 0)), raw(t, 0, payload[:len(payload)-1]), raw(t, 0, nil), raw(t, 0, payload[:4]), raw(t, 0, []byte{255, 255, 255, 255}), slices.Concat(good, good)}
	for cut := range good {
		damaged := slices.Clone(good)
		damaged[cut] ^= 4
		l = append(l, good[:cut], damaged)
	}
	for i, b := range l {
		if m, e := manifest.Decode(b); e != api.ErrManifest || !manifest.Same(m, api.Manifest{}) {
			t.Error(i, m, e)
		}
	}
}

// P18.1
func TestSame(t *testing.T) {
	if !manifest.Same(third(), third()) || !manifest.Same(first(), api.Manifest{Parts: []api.Part{}, Open: 1, Next: 1}) {
		t.Error("equal")
	}
	for i, change := range []func(m *api.Manifest){func(m *api.Manifest) { m.Open++ }, func(m *api.Manifest) { m.Next++ }, func(m *api.Manifest) { m.Parts = m.Parts[:2] }, func(m *api.Manifest) { m.Parts[1].Bytes++ }, func(m *api.Manifest) { m.Parts[2].Segment++ }, func(m *api.Manifest) { m.Parts[0].First++ }, func(m *api.Manifest) { m.Parts[0].Groups++ }} {
		m := third()
		change(&m)
		if manifest.Same(m, third()) || manifest.Same(third(), m) {
			t.Error(i)
		}
	}
}

func made(t *testing.T, room int) *disk.Disk {
	t.Helper()
	d, e := disk.New(room)
	if e != api.OK {
		t.Fatal(e)
	}
	return d
}

func loads(t *testing.T, d *disk.Disk, want api.Manifest) {
	t.Helper()
	if m, e := manifest.Load(d); !manifest.Same(m, want) || e != api.OK {
		t.Error(m, e)
	}
}

// P18.2, P18.3
func TestSaveAndLoad(t *testing.T) {
	d := made(t, 1000)
	if m, e := manifest.Load(d); e != api.ErrNone || !manifest.Same(m, api.Manifest{}) {
		t.Error(m, e)
	}
	for i, m := range []api.Manifest{first(), second(), third()} {
		before := d.Operations()
		if e := manifest.Save(d, m); e != api.OK {
			t.Error(i, e)
		}
		loads(t, d, m)
		if !slices.Equal(d.Names(), []string{"manifest"}) || d.Operations() != before+4 {
			t.Error(d.Names(), d.Operations())
		}
	}
	for i, m := range invalid() {
		if e := manifest.Save(d, m); e != api.ErrManifest {
			t.Error(i, e)
		}
		if e := manifest.Save(nil, m); e != api.ErrNil {
			t.Error(i, e)
		}
	}
	loads(t, d, third())
	d.Create("manifest.new")
	d.Append("manifest.new", []byte("left over"))
	before := d.Operations()
	if e := manifest.Save(d, first()); e != api.OK || d.Operations() != before+5 {
		t.Error(e, d.Operations())
	}
	loads(t, d, first())
	size, _ := d.Size("manifest")
	if b, _ := d.Read("manifest", 0, size); !bytes.Equal(b, encoding(t, first())) {
		t.Error(b)
	}
}

// P18.3
func TestLoadWrong(t *testing.T) {
	if _, e := manifest.Load(nil); e != api.ErrNil {
		t.Error(e)
	}
	if e := manifest.Save(new(disk.Disk), first()); e != api.ErrNil {
		t.Error(e)
	}
	for i, b := range [][]byte{nil, []byte("x"), encoding(t, api.Manifest{}), append(encoding(t, first()), 0)} {
		d := made(t, 1000)
		d.Create("manifest")
		d.Append("manifest", b)
		if m, e := manifest.Load(d); e != api.ErrManifest || !manifest.Same(m, api.Manifest{}) {
			t.Error(i, m, e)
		}
	}
	d := made(t, 1000)
	manifest.Save(d, first())
	d.Fall(api.Fall{})
	if m, e := manifest.Load(d); e != api.ErrDown || !manifest.Same(m, api.Manifest{}) {
		t.Error(m, e)
	}
	if e := manifest.Save(d, first()); e != api.ErrDown {
		t.Error(e)
	}
	if e := manifest.Save(d, api.Manifest{}); e != api.ErrManifest {
		t.Error(e)
	}
}

// P18.2
func TestFull(t *testing.T) {
	size := len(encoding(t, first()))
	d := made(t, 2*size)
	manifest.Save(d, first())
	if e := manifest.Save(d, second()); e != api.ErrFull {
		t.Error(e)
	}
	loads(t, d, first())
	if !slices.Equal(d.Names(), []string{"manifest"}) || d.Left() != size {
		t.Error(d.Names(), d.Left())
	}
	d.Create("manifest.new")
	d.Append("manifest.new", make([]byte, size))
	if e := manifest.Save(d, api.Manifest{Open: 7, Next: 1}); e != api.OK {
		t.Error(e)
	}
	loads(t, d, api.Manifest{Open: 7, Next: 1})
}

// P18.5
func TestCrashes(t *testing.T) {
	for _, old := range []api.Manifest{{}, first()} {
		for at := 1; at <= 6; at++ {
			for keep := range 80 {
				for _, done := range []bool{false, true} {
					d := made(t, 1000)
					if old.Open > 0 {
						manifest.Save(d, old)
						d.Create("manifest.new")
					}
					d.Arm(api.Fall{At: at, Keep: []int{keep, keep}, File: keep % 2, Place: keep / 2, Bits: 0x01010101, Done: done})
					e := manifest.Save(d, second())
					d.Boot()
					m, f := manifest.Load(d)
					isNew, isOld := f == api.OK && manifest.Same(m, second()), f == api.OK && manifest.Same(m, old)
					if old.Open == 0 {
						isOld = f == api.ErrNone
					}
					if e == api.OK && !isNew || e != api.OK && (e != api.ErrDown || !isNew && !isOld) {
						t.Fatal(at, keep, done, e, f, m)
					}
					if e := manifest.Save(d, third()); e == api.ErrDown {
						d.Boot()
						if e := manifest.Save(d, third()); e != api.OK {
							t.Fatal(e)
						}
					}
					loads(t, d, third())
				}
			}
		}
	}
}

// P18.4
func TestApart(t *testing.T) {
	m := third()
	b, _ := manifest.Encode(m)
	back, _ := manifest.Decode(b)
	back.Parts[0].Bytes = 7
	b[20]++
	if !manifest.Same(m, third()) {
		t.Error("changed")
	}
	if again, _ := manifest.Encode(m); !bytes.Equal(again, encoding(t, third())) {
		t.Error("shared")
	}
}
