package log

import (
	"iter"

	"purser/api"
	"purser/disk"
	"purser/manifest"
	"purser/segment"
)

// inOrder performs steps up to the first error.
func inOrder(steps ...func() api.Errno) api.Errno {
	for _, step := range steps {
		if e := step(); e != api.OK {
			return e
		}
	}
	return api.OK
}

// Open is a disk's log.
func Open(d *disk.Disk, size int) (*Log, api.Errno) {
	switch {
	case d == nil:
		return nil, api.ErrNil
	case size < api.LeastSegment || size > mostSize:
		return nil, api.ErrLog
	}
	l := &Log{disk: d, size: size}
	if e := inOrder(l.load, l.readClosed, l.readOpen); e != api.OK {
		return nil, e
	}
	return l, api.OK
}

// load loads the manifest, or makes that of an empty log.
func (l *Log) load() api.Errno {
	m, e := manifest.Load(l.disk)
	if e == api.ErrNone {
		m = api.Manifest{Open: 1, Next: 1}
		e = l.start(m)
	}
	l.manifest = m
	return e
}

// start makes an empty file for the open segment of a manifest, and saves the manifest.
func (l *Log) start(m api.Manifest) api.Errno {
	name := segment.Name(m.Open)
	return inOrder(
		func() api.Errno {
			if _, e := l.disk.Size(name); e != api.OK {
				return api.OK // no file is left over
			}
			return l.disk.Remove(name)
		},
		func() api.Errno { return l.disk.Create(name) },
		func() api.Errno { return manifest.Save(l.disk, m) },
	)
}

// swap closes the open segment, which has groups, and opens the next one.
func (l *Log) swap() api.Errno {
	m := l.Manifest()
	m.Parts = append(m.Parts, api.Part{Segment: m.Open, First: m.Next, Groups: l.open, Bytes: l.bytes})
	m.Open++
	m.Next += uint64(l.open)
	e := l.start(m)
	switch e {
	case api.OK:
		l.manifest, l.open, l.bytes = m, 0, 0
	case api.ErrFull:
		l.disk.Remove(segment.Name(m.Open))
	}
	return e
}

// readClosed reads the groups of the closed segments, which have to be just what the manifest says.
func (l *Log) readClosed() api.Errno {
	e := api.OK
reading:
	for part, found := range l.closed() {
		whole := len(found.groups) == part.Groups && found.end == part.Bytes && found.size == part.Bytes
		if !whole {
			e = api.ErrLog
			break reading
		}
		l.groups = append(l.groups, found.groups...)
	}
	return e
}

// content is what there is in the file of a segment: groups, the end of the last one, and the file's length.
type content struct {
	groups    [][]api.Record
	end, size int
}

// closed produces what the manifest says of each closed segment, and what there is of it.
func (l *Log) closed() iter.Seq2[api.Part, content] {
	return func(yield func(api.Part, content) bool) {
		for _, part := range l.manifest.Parts {
			found, _ := l.read(part.Segment, part.First) // of a file that cannot be read nothing is there
			if !yield(part, found) {
				return
			}
		}
	}
}

// read reads the file of a segment whose groups start with a number.
func (l *Log) read(number int, first uint64) (content, api.Errno) {
	name := segment.Name(number)
	size, e := l.disk.Size(name)
	if e != api.OK {
		return content{}, e
	}
	b, e := l.disk.Read(name, 0, size)
	if e != api.OK {
		return content{}, e
	}
	groups, end := segment.Read(b, first)
	return content{groups: groups, end: end, size: size}, api.OK
}

// readOpen reads the groups of the open segment, and cuts off what is behind the last one.
func (l *Log) readOpen() api.Errno {
	name := segment.Name(l.manifest.Open)
	found, e := l.read(l.manifest.Open, l.manifest.Next)
	if e == api.ErrNone {
		e = l.disk.Create(name)
	}
	if e == api.OK && found.end < found.size {
		e = inOrder(
			func() api.Errno { return l.disk.Truncate(name, found.end) },
			func() api.Errno { return l.disk.Sync(name) },
		)
	}
	l.groups = append(l.groups, found.groups...)
	l.open, l.bytes = len(found.groups), found.end
	return e
}
