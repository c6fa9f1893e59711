package disk_test

import (
	"bytes"
	"maps"
	"math/rand"
	"slices"
	"strings"
	"testing"

	"purser/api"
	"purser/disk"
)

func made(t *testing.T, room int) *disk.Disk {
	t.Helper()
	d, e := disk.New(room)
	if e != api.OK || !d.Up() || d.Left() != room || d.Operations() != 0 || len(d.Names()) != 0 {
		t.Fatal(room, e)
	}
	return d
}

func is(t *testing.T, what string, got, want api.Errno) {
	t.Helper()
	if got != want {
		t.Errorf("%s: error %d, not %d", what, got, want)
	}
}

// has tells of a disk with other files, each given as name and bytes.
func has(t *testing.T, d *disk.Disk, files ...string) {
	t.Helper()
	var got []string
	for _, name := range d.Names() {
		n, e := d.Size(name)
		b, f := d.Read(name, 0, n)
		if e != api.OK || f != api.OK {
			t.Error(name, e, f)
		}
		got = append(got, name, string(b))
	}
	if !slices.Equal(got, files) {
		t.Errorf("files %q, not %q", got, files)
	}
}

// write makes a file with some durable bytes and some that are not.
func write(t *testing.T, d *disk.Disk, name, durable, unsure string) {
	t.Helper()
	is(t, "create", d.Create(name), api.OK)
	is(t, "append", d.Append(name, []byte(durable)), api.OK)
	is(t, "sync", d.Sync(name), api.OK)
	is(t, "append", d.Append(name, []byte(unsure)), api.OK)
}

// P15.1
func TestNew(t *testing.T) {
	for _, room := range []int{0, 1, 1 << 26} {
		made(t, room)
	}
	for _, room := range []int{-1, 1<<26 + 1, 1 << 62, -1 << 63} {
		if d, e := disk.New(room); d != nil || e != api.ErrArg {
			t.Error(room, e)
		}
	}
}

// P15.2, P15.3
func TestExample(t *testing.T) {
	d := made(t, 4)
	is(t, "create", d.Create("a"), api.OK)
	is(t, "abc", d.Append("a", []byte("abc")), api.OK)
	is(t, "de", d.Append("a", []byte("de")), api.ErrFull)
	if d.Left() != 1 || d.Operations() != 2 {
		t.Error(d.Left(), d.Operations())
	}
	is(t, "sync", d.Sync("a"), api.OK)
	is(t, "d", d.Append("a", []byte("d")), api.OK)
	is(t, "fall", d.Fall(api.Fall{}), api.OK)
	_, e := d.Size("a")
	is(t, "size", e, api.ErrDown)
	is(t, "boot", d.Boot(), api.OK)
	has(t, d, "a", "abc")
	is(t, "A", d.Create("A"), api.ErrDisk)
	_, e = d.Read("b", 0, 0)
	is(t, "b", e, api.ErrNone)
	is(t, "truncate", d.Truncate("a", 9), api.ErrDisk)
}

// P15.2
func TestNames(t *testing.T) {
	d := made(t, 0)
	good := []string{"a", "z", "0", "9", ".", "-", "seg.1", "manifest.new", "..", strings.Repeat("x", 20)}
	for _, name := range good {
		is(t, name, d.Create(name), api.OK)
		is(t, name, d.Create(name), api.ErrDisk)
	}
	slices.Sort(good)
	if !slices.Equal(d.Names(), good) {
		t.Error(d.Names())
	}
	for _, name := range []string{"", "A", "aA", "Za", "a b", "a_b", "a/b", "é", "a\x00", strings.Repeat("x", 21), "`", "{", "/", ":", ",", "a{a"} {
		is(t, name, d.Create(name), api.ErrDisk)
		is(t, name, d.Rename("a", name), api.ErrDisk)
		is(t, name, d.Rename("none", name), api.ErrNone)
		is(t, name, d.Remove(name), api.ErrNone)
		is(t, name, d.Sync(name), api.ErrNone)
	}
	if d.Operations() != len(good) {
		t.Error(d.Operations())
	}
}

// P15.2
func TestOperations(t *testing.T) {
	d := made(t, 10)
	for _, e := range []api.Errno{d.Append("a", make([]byte, 11)), d.Sync("a"), d.Truncate("a", -1), d.Rename("a", "B"), d.Remove("a")} {
		is(t, "no file", e, api.ErrNone)
	}
	write(t, d, "a", "abc", "de")
	is(t, "nothing", d.Append("a", nil), api.OK)
	is(t, "fill", d.Append("a", []byte("fghij")), api.OK)
	is(t, "full", d.Append("a", []byte("k")), api.ErrFull)
	is(t, "nothing more", d.Append("a", nil), api.OK)
	for _, n := range []int{-1, 11, 1 << 62, -1 << 63} {
		is(t, "truncate", d.Truncate("a", n), api.ErrDisk)
	}
	is(t, "all of it", d.Truncate("a", 10), api.OK)
	is(t, "less", d.Truncate("a", 4), api.OK)
	has(t, d, "a", "abcd")
	c := d.Copy()
	is(t, "nothing is left", c.Truncate("a", 0), api.OK)
	has(t, c, "a", "")
	if d.Left() != 6 || d.Operations() != 9 || c.Left() != 10 {
		t.Error(d.Left(), d.Operations())
	}
	write(t, d, "b", "xyz", "")
	is(t, "same name", d.Rename("a", "a"), api.OK)
	has(t, d, "a", "abcd", "b", "xyz")
	is(t, "another's name", d.Rename("a", "b"), api.OK)
	has(t, d, "b", "abcd")
	if d.Left() != 6 || d.Operations() != 15 {
		t.Error(d.Left(), d.Operations())
	}
	is(t, "new name", d.Rename("b", "c"), api.OK)
	has(t, d, "c", "abcd")
	is(t, "remove", d.Remove("c"), api.OK)
	is(t, "create", d.Create("c"), api.OK)
	has(t, d, "c", "")
	if d.Left() != 10 || d.Operations() != 18 {
		t.Error(d.Left(), d.Operations())
	}
}

// P15.3
func TestRead(t *testing.T) {
	d := made(t, 10)
	write(t, d, "a", "abc", "de")
	for _, x := range []struct {
		at, n int
		want  string
	}{{0, 5, "abcde"}, {0, 0, ""}, {5, 0, ""}, {2, 2, "cd"}, {4, 1, "e"}} {
		if b, e := d.Read("a", x.at, x.n); string(b) != x.want || e != api.OK {
			t.Error(x, b, e)
		}
	}
	for _, x := range [][2]int{{-1, 1}, {0, -1}, {0, 6}, {5, 1}, {6, 0}, {1, 1<<63 - 1}, {1<<63 - 1, 1}, {-1 << 63, 0}} {
		if b, e := d.Read("a", x[0], x[1]); b != nil || e != api.ErrDisk {
			t.Error(x, b, e)
		}
		if b, e := d.Read("b", x[0], x[1]); b != nil || e != api.ErrNone {
			t.Error(x, b, e)
		}
	}
	if n, e := d.Size("b"); n != 0 || e != api.ErrNone {
		t.Error(n, e)
	}
	if n, e := d.Size("a"); n != 5 || e != api.OK {
		t.Error(n, e)
	}
}

// P15.2, P15.4
func TestDown(t *testing.T) {
	d := made(t, 10)
	write(t, d, "a", "abc", "de")
	is(t, "fall", d.Fall(api.Fall{Keep: []int{9}}), api.OK)
	_, r := d.Read("x", -1, 0)
	_, s := d.Size("x")
	for i, e := range []api.Errno{d.Create("A"), d.Create("a"), d.Append("x", nil), d.Sync("x"), d.Truncate("a", 99), d.Rename("x", "X"), d.Remove("x"), r, s} {
		if e != api.ErrDown {
			t.Error(i, e)
		}
	}
	if d.Names() != nil || d.Left() != 0 || d.Operations() != 0 || d.Up() {
		t.Error(d.Names(), d.Left(), d.Operations(), d.Up())
	}
	c := d.Copy()
	is(t, "boot", d.Boot(), api.OK)
	is(t, "boot again", d.Boot(), api.OK)
	if !d.Up() || c.Up() || d.Operations() != 4 || d.Left() != 5 {
		t.Error(d.Up(), c.Up(), d.Operations())
	}
	has(t, d, "a", "abcde")
}

// P15.4
func TestFall(t *testing.T) {
	for i, x := range []struct {
		fall api.Fall
		want []string
	}{
		{api.Fall{}, []string{"a", "A", "b", "B", "c", "C"}},
		{api.Fall{Keep: []int{2, -1, 99}}, []string{"a", "A12", "b", "B", "c", "Cuvwxyz"}},
		{api.Fall{Keep: []int{0, 3}}, []string{"a", "A", "b", "Bpqr", "c", "C"}},
		{api.Fall{Keep: []int{9, 9, 9, 9}, File: 2, Place: 1, Bits: 0x20202020}, []string{"a", "A1234", "b", "Bpqrst", "c", "CuVWXYz"}},
		{api.Fall{Keep: []int{9, 9, 9}, File: 2, Place: 0, Bits: 0x20}, []string{"a", "A1234", "b", "Bpqrst", "c", "CUvwxyz"}},
		{api.Fall{Keep: []int{9, 9, 9}, File: 2, Place: -2, Bits: 0x20200000}, []string{"a", "A1234", "b", "Bpqrst", "c", "CUVwxyz"}},
		{api.Fall{Keep: []int{9, 9, 3}, File: 2, Place: 2, Bits: 0x20202020}, []string{"a", "A1234", "b", "Bpqrst", "c", "CuvW"}},
		{api.Fall{Keep: []int{9, 2, 3}, File: 1, Place: 2, Bits: 0x20202020}, []string{"a", "A1234", "b", "Bpq", "c", "Cuvw"}},
		{api.Fall{Keep: []int{9}, File: 2, Place: 0, Bits: 0xFFFFFFFF}, []string{"a", "A1234", "b", "B", "c", "C"}},
		{api.Fall{Keep: []int{9}, File: 0, Place: -4, Bits: 0xFFFFFFFF}, []string{"a", "A1234", "b", "B", "c", "C"}},
		{api.Fall{Keep: []int{9}, File: 0, Place: 1<<63 - 1, Bits: 0xFFFFFFFF}, []string{"a", "A1234", "b", "B", "c", "C"}},
		{api.Fall{Keep: []int{9}, File: 0, Place: -1 << 63, Bits: 0xFFFFFFFF}, []string{"a", "A1234", "b", "B", "c", "C"}},
		{api.Fall{Keep: []int{9}, File: -1, Bits: 0xFFFFFFFF}, []string{"a", "A1234", "b", "B", "c", "C"}},
		{api.Fall{Keep: []int{9}, File: 3, Bits: 0xFFFFFFFF, At: 7, Done: true}, []string{"a", "A1234", "b", "B", "c", "C"}},
		{api.Fall{Keep: []int{1<<63 - 1, -1 << 63}}, []string{"a", "A1234", "b", "B", "c", "C"}},
	} {
		d := made(t, 100)
		write(t, d, "c", "C", "uvwxyz")
		write(t, d, "a", "A", "1234")
		write(t, d, "b", "B", "pqrst")
		is(t, "fall", d.Fall(x.fall), api.OK)
		is(t, "fall again", d.Fall(api.Fall{}), api.OK) // what survived is durable
		d.Boot()
		has(t, d, x.want...)
		left := 100
		for j := 1; j < len(x.want); j += 2 {
			left -= len(x.want[j])
		}
		if d.Left() != left || d.Operations() != 12 {
			t.Error(i, d.Left(), d.Operations())
		}
	}
}

// P15.4
func TestFloors(t *testing.T) {
	d := made(t, 100)
	write(t, d, "a", "abcdef", "ghi")
	d.Truncate("a", 4)
	d.Append("a", []byte("XYZ"))
	write(t, d, "b", "12", "34")
	d.Rename("b", "c")
	write(t, d, "d", "56", "78")
	write(t, d, "e", "90", "")
	d.Rename("d", "e")
	d.Create("f")
	d.Append("f", []byte("new"))
	d.Fall(api.Fall{})
	d.Boot()
	has(t, d, "a", "abcd", "c", "12", "e", "56", "f", "")
}

// step does one operation of each kind on a disk with files a and b.
func step(d *disk.Disk, kind int) api.Errno {
	switch kind {
	case 0:
		return d.Create("c")
	case 1:
		return d.Append("a", []byte("+"))
	case 2:
		return d.Sync("a")
	case 3:
		return d.Truncate("a", 1)
	case 4:
		return d.Rename("a", "b")
	}
	return d.Remove("a")
}

// P15.4
func TestArmed(t *testing.T) {
	before := []string{"a", "Aa", "b", "B"}
	after := [][]string{{"a", "Aa", "b", "B", "c", ""}, {"a", "Aa+", "b", "B"}, {"a", "Aa", "b", "B"}, {"a", "A", "b", "B"}, {"b", "Aa"}, {"b", "B"}}
	for kind, files := range after {
		for _, done := range []bool{false, true} {
			d := made(t, 10)
			write(t, d, "a", "A", "a")
			write(t, d, "b", "B", "")
			is(t, "arm", d.Arm(api.Fall{At: 1, Keep: []int{9, 9}, Done: done}), api.OK)
			is(t, "refused", d.Create("a"), api.ErrDisk) // no operation: it is not counted
			is(t, "step", step(d, kind), api.ErrDown)
			if d.Up() {
				t.Error("up")
			}
			d.Boot()
			if done || kind == 1 {
				has(t, d, files...)
			} else {
				has(t, d, before...)
			}
			if d.Operations() != 9 {
				t.Error(d.Operations())
			}
			is(t, "only once", d.Append("b", nil), api.OK)
		}
	}
}

// P15.4
func TestArmedSync(t *testing.T) {
	for _, done := range []bool{false, true} {
		d := made(t, 10)
		write(t, d, "a", "A", "bcd")
		d.Arm(api.Fall{At: 1, Keep: []int{2}, Done: done})
		is(t, "sync", d.Sync("a"), api.ErrDown)
		d.Boot()
		has(t, d, "a", "Abc")
		d.Arm(api.Fall{At: 1, Keep: []int{1}, Place: 0, Bits: 1})
		is(t, "append", d.Append("a", []byte("xyz")), api.ErrDown)
		d.Boot()
		has(t, d, "a", "Abcy")
	}
}

// P15.4
func TestArmAgain(t *testing.T) {
	d := made(t, 10)
	for _, at := range []int{0, -1, -1 << 63} {
		is(t, "at", d.Arm(api.Fall{At: at}), api.ErrArg)
	}
	d.Arm(api.Fall{At: 1})
	is(t, "replace", d.Arm(api.Fall{At: 3}), api.OK)
	is(t, "not replaced", d.Arm(api.Fall{At: 0}), api.ErrArg)
	is(t, "1", d.Create("a"), api.OK)
	is(t, "2", d.Create("b"), api.OK)
	c := d.Copy()
	is(t, "3", d.Create("c"), api.ErrDown)
	is(t, "3 of the copy", c.Create("c"), api.ErrDown)
	d.Boot()
	has(t, d, "a", "", "b", "")
	d.Arm(api.Fall{At: 2})
	d.Fall(api.Fall{})
	d.Boot()
	for _, name := range []string{"d", "e", "f"} {
		is(t, "disarmed", d.Create(name), api.OK)
	}
	d.Fall(api.Fall{})
	is(t, "armed while down", d.Arm(api.Fall{At: 2}), api.OK)
	is(t, "down", d.Create("g"), api.ErrDown)
	d.Boot()
	is(t, "g", d.Create("g"), api.OK)
	is(t, "h", d.Create("h"), api.ErrDown)
	d.Boot()
	d.Arm(api.Fall{At: 1<<63 - 1})
	is(t, "far", d.Create("h"), api.OK)
}

// P15.2, P15.3, P15.4
func TestNone(t *testing.T) {
	for _, d := range []*disk.Disk{nil, new(disk.Disk)} {
		_, r := d.Read("x", -1, 0)
		_, s := d.Size("x")
		for i, e := range []api.Errno{d.Create("A"), d.Append("x", nil), d.Sync("x"), d.Truncate("a", 99), d.Rename("x", "X"), d.Remove("x"), r, s, d.Arm(api.Fall{}), d.Fall(api.Fall{}), d.Boot()} {
			if e != api.ErrNil {
				t.Error(i, e)
			}
		}
		if d.Names() != nil || d.Left() != 0 || d.Operations() != 0 || d.Up() || d.Copy() != nil {
			t.Error("none")
		}
	}
}

// P15.5
func TestApart(t *testing.T) {
	d := made(t, 100)
	b := []byte("abc")
	d.Create("a")
	d.Append("a", b)
	b[0] = 'X'
	r, _ := d.Read("a", 0, 3)
	r[1] = 'X'
	_ = append(r, 'Y')
	keep := []int{3}
	d.Arm(api.Fall{At: 2, Keep: keep})
	keep[0] = 0
	c := d.Copy()
	c.Append("a", []byte("more"))
	c.Create("c")
	has(t, d, "a", "abc")
	d.Create("b")
	d.Sync("b")
	d.Boot()
	has(t, d, "a", "abc", "b", "")
}

// P15.4, P15.5
func TestCopiesApart(t *testing.T) {
	d := made(t, 100)
	write(t, d, "a", "abcdefghi", "jkl")
	d.Truncate("a", 5)
	c, e := d.Copy(), d.Copy()
	d.Append("a", []byte("one"))
	c.Append("a", []byte("two"))
	c.Create("c")
	e.Append("a", []byte("xyz"))
	e.Fall(api.Fall{Keep: []int{9}, Bits: 0x20202020})
	e.Boot()
	d.Remove("a")
	has(t, d)
	has(t, c, "a", "abcdetwo", "c", "")
	has(t, e, "a", "abcdeXYZ")
	if d.Left() != 100 || c.Left() != 92 || e.Left() != 92 {
		t.Error(d.Left(), c.Left(), e.Left())
	}
	keep := []int{9}
	c.Arm(api.Fall{At: 1, Keep: keep})
	f := c.Copy()
	keep[0] = 0
	for _, x := range []*disk.Disk{c, f} {
		is(t, "armed", x.Append("a", []byte("!")), api.ErrDown)
		x.Boot()
		has(t, x, "a", "abcdetwo!", "c", "")
	}
}

// P15.6
func TestPrefixSurvives(t *testing.T) {
	r := rand.New(rand.NewSource(15))
	names := []string{"a", "b", "c", "d"}
	for round := range 300 {
		d := made(t, 1000)
		bytesOf, floor := map[string][]byte{}, map[string]int{}
		for range 1 + r.Intn(30) {
			name := names[r.Intn(4)]
			b := bytesOf[name]
			switch r.Intn(6) {
			case 0:
				if d.Create(name) == api.OK {
					bytesOf[name] = []byte{}
				}
			case 1, 2:
				more := make([]byte, r.Intn(9))
				r.Read(more)
				if d.Append(name, more) == api.OK {
					bytesOf[name] = slices.Concat(b, more)
				}
			case 3:
				if d.Sync(name) == api.OK {
					floor[name] = len(b)
				}
			case 4:
				if n := r.Intn(len(b) + 1); d.Truncate(name, n) == api.OK {
					bytesOf[name], floor[name] = b[:n], min(floor[name], n)
				}
			case 5:
				if d.Remove(name) == api.OK {
					delete(bytesOf, name)
					delete(floor, name)
				}
			}
		}
		keep := []int{r.Intn(9), r.Intn(9), r.Intn(9), r.Intn(9)}
		fall := api.Fall{Keep: keep, File: r.Intn(5), Place: r.Intn(12) - 3, Bits: r.Uint32()}
		d.Fall(fall)
		d.Boot()
		if got := d.Names(); !slices.Equal(got, slices.Sorted(maps.Keys(bytesOf))) {
			t.Fatal(got)
		}
		for i, name := range d.Names() {
			size, _ := d.Size(name)
			got, _ := d.Read(name, 0, size)
			n := min(len(bytesOf[name]), floor[name]+keep[i])
			want := slices.Clone(bytesOf[name][:n])
			for k := range 4 {
				if at := floor[name] + fall.Place + k; fall.File == i && at >= floor[name] && at < n {
					want[at] ^= byte(fall.Bits >> (8 * k))
				}
			}
			if !bytes.Equal(got, want) {
				t.Fatal(round, name, got, want)
			}
		}
	}
}
