package disk

import "purser/api"

// When an operation takes effect at which the disk goes down.
const (
	always = iota
	never
	ifDone
)

// perform does an operation by its effect, and lets the disk go down if the armed crash is due.
func (d *Disk) perform(when int, effect func()) api.Errno {
	d.done++
	if d.wait != 1 {
		d.wait = max(0, d.wait-1)
		effect()
		return api.OK
	}
	if when == always || when == ifDone && d.armed.Done {
		effect()
	}
	d.crash(d.armed)
	return api.ErrDown
}

// Create makes an empty file.
func (d *Disk) Create(name string) api.Errno {
	switch _, e := d.find(name); {
	case e == api.OK:
		return api.ErrDisk
	case e != api.ErrNone:
		return e
	case !isName(name):
		return api.ErrDisk
	}
	return d.perform(ifDone, func() { d.files[name] = &file{} })
}

// Append puts bytes at the end of a file.
func (d *Disk) Append(name string, b []byte) api.Errno {
	f, e := d.find(name)
	switch {
	case e != api.OK:
		return e
	case len(b) > d.room-d.used:
		return api.ErrFull
	}
	return d.perform(always, func() {
		f.bytes = append(f.bytes, b...)
		d.used += len(b)
	})
}

// Sync makes all bytes of a file durable.
func (d *Disk) Sync(name string) api.Errno {
	f, e := d.find(name)
	if e != api.OK {
		return e
	}
	return d.perform(never, func() { f.floor = len(f.bytes) })
}

// Truncate keeps the first n bytes of a file.
func (d *Disk) Truncate(name string, n int) api.Errno {
	f, e := d.find(name)
	switch {
	case e != api.OK:
		return e
	case n < 0 || n > len(f.bytes):
		return api.ErrDisk
	}
	return d.perform(ifDone, func() { d.cut(f, n) })
}

// cut keeps the first n bytes of a file.
func (d *Disk) cut(f *file, n int) {
	d.used -= len(f.bytes) - n
	f.bytes = f.bytes[:n]
	f.floor = min(f.floor, n)
}

// Rename gives a file another name, which a file may have that is then removed.
func (d *Disk) Rename(from, to string) api.Errno {
	f, e := d.find(from)
	switch {
	case e != api.OK:
		return e
	case !isName(to):
		return api.ErrDisk
	}
	return d.perform(ifDone, func() {
		delete(d.files, from)
		d.remove(to)
		d.files[to] = f
	})
}

// Remove removes a file.
func (d *Disk) Remove(name string) api.Errno {
	if _, e := d.find(name); e != api.OK {
		return e
	}
	return d.perform(ifDone, func() { d.remove(name) })
}

// remove removes a file, if there is one of that name.
func (d *Disk) remove(name string) {
	if f := d.files[name]; f != nil {
		d.used -= len(f.bytes)
		delete(d.files, name)
	}
}
