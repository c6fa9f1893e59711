package manifest

import (
	"iter"

	"purser/api"
	"purser/disk"
)

// newFile is the file that a manifest is written to before it takes the other one's place.
const newFile = api.ManifestFor + ".new"

// step is an operation on a disk.
type step func() api.Errno

// Save swaps a manifest in.
func Save(d *disk.Disk, m api.Manifest) api.Errno {
	if d == nil {
		return api.ErrNil
	}
	b, e := Encode(m)
	if e != api.OK {
		return e
	}
saving:
	for do := range steps(d, b) {
		if e = do(); e != api.OK {
			break saving
		}
	}
	if e == api.ErrFull {
		d.Remove(newFile)
	}
	return e
}

// steps produces the operations that save the bytes of a manifest, in their order.
func steps(d *disk.Disk, b []byte) iter.Seq[step] {
	return func(yield func(step) bool) {
		if _, e := d.Size(newFile); e == api.OK && !yield(func() api.Errno { return d.Remove(newFile) }) {
			return
		}
		for _, do := range []step{
			func() api.Errno { return d.Create(newFile) },
			func() api.Errno { return d.Append(newFile, b) },
			func() api.Errno { return d.Sync(newFile) },
			func() api.Errno { return d.Rename(newFile, api.ManifestFor) },
		} {
			if !yield(do) {
				return
			}
		}
	}
}

// Load is a disk's manifest.
func Load(d *disk.Disk) (api.Manifest, api.Errno) {
	size, e := d.Size(api.ManifestFor)
	if e != api.OK {
		return api.Manifest{}, e
	}
	b, e := d.Read(api.ManifestFor, 0, size)
	if e != api.OK {
		return api.Manifest{}, e
	}
	return Decode(b)
}
