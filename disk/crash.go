package disk

import (
	"iter"
	"slices"

	"purser/api"
)

// Arm arms a crash at an operation that is still to come.
func (d *Disk) Arm(f api.Fall) api.Errno {
	switch {
	case d.none():
		return api.ErrNil
	case f.At < 1:
		return api.ErrArg
	}
	d.wait = f.At
	d.armed = f
	d.armed.Keep = slices.Clone(f.Keep)
	return api.OK
}

// Fall crashes the disk now.
func (d *Disk) Fall(f api.Fall) api.Errno {
	if d.none() {
		return api.ErrNil
	}
	d.crash(f)
	return api.OK
}

// crash loses and damages what is not durable, and lets the disk be down.
func (d *Disk) crash(fall api.Fall) {
files:
	for i, f := range d.numbered() {
		d.cut(f, f.floor+survivors(fall, i, len(f.bytes)-f.floor))
		unsure := f.bytes[f.floor:]
		f.floor = len(f.bytes)
		if i != fall.File {
			continue files
		}
		for k := range 4 {
			if at := fall.Place + k; at >= 0 && at < len(unsure) {
				unsure[at] ^= byte(fall.Bits >> (8 * k))
			}
		}
	}
	d.down = true
	d.wait = 0
	d.armed = api.Fall{}
}

// survivors is how many of so many bytes after the floor of file i survive.
func survivors(fall api.Fall, i, many int) int {
	if i >= len(fall.Keep) {
		return 0
	}
	return min(max(0, fall.Keep[i]), many)
}

// numbered produces the files in ascending order of their names, numbered from 0.
func (d *Disk) numbered() iter.Seq2[int, *file] {
	return func(yield func(int, *file) bool) {
		for i, name := range d.sorted() {
			if !yield(i, d.files[name]) {
				return
			}
		}
	}
}
