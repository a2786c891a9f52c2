package chunklog

import (
	"strings"

	"chronicle/api"
	"chronicle/chunk"
	"chronicle/codec"
	"chronicle/frame"
	"chronicle/simdisk"
)

const mostPrefix = 20 // bytes of a prefix

// Open opens a log.
func Open(d *simdisk.Disk, prefix string, size int) (*Log, api.Errno) {
	if d == nil || prefix == "" || len(prefix) > mostPrefix {
		return nil, api.ErrArg
	}
	if _, e := chunk.Start(0, size); e != api.OK {
		return nil, e
	}
	l := &Log{disk: d, prefix: strings.Clone(prefix), size: size}
	// What is no log is told ahead of any change.
	torn, e := l.load()
	if e == api.OK {
		e = l.mend(torn)
	}
	if e != api.OK {
		return nil, e
	}
	l.synced = l.Len()
	return l, api.OK
}

// load takes the chunks that stand on the disk; is there a last one behind them that has no whole start?
func (l *Log) load() (bool, api.Errno) {
	files := l.files()
	for k, name := range files {
		if name != l.file(k) {
			return false, api.ErrForm
		}
		bytes, e := l.read(name)
		if e != api.OK {
			return false, e
		}
		last := k == len(files)-1
		s, e := chunk.Read(bytes)
		if e != api.OK && last {
			return true, api.OK
		}
		if e != api.OK || s.Number != k || !s.Done && !last {
			return false, api.ErrForm
		}
		l.parts, l.used = append(l.parts, part{size: s.Size, count: len(s.Bodies)}), taken(s.Bodies)
		l.list = l.list.with(s.Bodies...)
	}
	return false, api.OK
}

// files tells the names of the chunks' files, rising.
func (l *Log) files() []string {
	var files []string
	for _, name := range l.disk.List(l.prefix) {
		number := name[len(l.prefix):]
		if len(number) == digits && strings.Trim(number, "0123456789") == "" {
			files = append(files, name)
		}
	}
	return files
}

// read tells all bytes of a file; none, if it is not there.
func (l *Log) read(name string) (string, api.Errno) {
	size, e := l.disk.Size(name)
	switch e {
	case api.OK:
		return l.disk.Read(name, 0, size)
	case api.ErrNone:
		return "", api.OK
	}
	return "", e
}

// mend takes off the disk what was begun, and not ended, when the power went.
func (l *Log) mend(torn bool) api.Errno {
	e := l.discard(l.prefix + newFile) // without power load has found no file, and this is what tells it
	if e == api.OK && torn {
		e = l.disk.Remove(l.file(len(l.parts)))
	}
	last := len(l.parts) - 1
	if e == api.OK && last >= 0 {
		// Of one that is done the end, too: the last one takes records.
		e = l.trim(l.file(last), l.end(l.used))
	}
	if e == api.OK {
		e = l.syncAll()
	}
	if e == api.OK {
		e = l.mendMark()
	}
	return e
}

// trim cuts off what stands in a file behind its good bytes.
func (l *Log) trim(name string, good int) api.Errno {
	size, e := l.disk.Size(name)
	if e == api.OK && size > good {
		e = l.disk.Truncate(name, good)
	}
	return e
}

// syncAll makes all chunks last; those that a Log has done do so already.
func (l *Log) syncAll() api.Errno {
	last := len(l.parts) - 1
	for k := range l.parts {
		if k < last && l.disk.Unsynced(l.file(k)) == 0 {
			continue
		}
		if e := l.disk.Sync(l.file(k)); e != api.OK {
			return e
		}
	}
	return api.OK
}

// mendMark takes the chaser, and cuts off what stands in its file behind it.
func (l *Log) mendMark() api.Errno {
	name := l.prefix + markFile
	bytes, e := l.read(name)
	if e != api.OK || bytes == "" {
		return e
	}
	good := 0
	l.mark, good = lastMark(bytes)
	return l.trim(name, good)
}

// lastMark tells the last chaser of those that bytes begin with, and where its frame ends.
func lastMark(bytes string) (int, int) {
	mark, good := 0, 0
	for {
		body, size, e := frame.First(bytes[good:])
		if e != api.OK {
			return mark, good
		}
		i := codec.NewIn(body)
		n := i.I64()
		if i.End() != api.OK || n < 0 {
			return mark, good
		}
		mark, good = n, good+size
	}
}
