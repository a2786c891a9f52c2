package chunklog

import (
	"slices"
	"strings"

	"chronicle/api"
	"chronicle/chunk"
	"chronicle/codec"
	"chronicle/frame"
)

// What behind the prefix the names of files end with that are no chunks.
const (
	markFile = "mark"
	newFile  = "new"
)

const (
	digits = 6              // of a chunk's number in its file's name
	over   = frame.Over + 1 // bytes of a record's frame beside its body
)

// refuses tells why nothing is done any more.
func (l *Log) refuses() api.Errno {
	if l == nil || l.disk == nil {
		return api.ErrArg
	}
	return l.broken
}

// fails tells what the disk told; behind all but ErrFull what stands on it is not known any more.
func (l *Log) fails(e api.Errno) api.Errno {
	if e != api.ErrFull {
		l.broken = e
	}
	return e
}

// file tells the name of a chunk's file; there are never more chunks than a disk has files.
func (l *Log) file(number int) string {
	d := codec.Digits(number)
	return l.prefix + strings.Repeat("0", digits-len(d)) + d
}

// first tells how many records stand ahead of a chunk.
func (l *Log) first(number int) int {
	n := 0
	for _, p := range l.parts[:number] {
		n += p.count
	}
	return n
}

// add puts a record in the last chunk, or in the next one.
func (l *Log) add(body string) api.Errno {
	last := len(l.parts) - 1
	if last < 0 || len(body) <= chunk.Room(l.size, l.used) {
		return l.write(max(last, 0), body)
	}
	if e := l.finish(last); e != api.OK {
		return e
	}
	ahead := l.Len()
	e := l.write(last+1, body)
	if e == api.ErrFull {
		// What did not go in leaves nothing: the chunk is the last one still, and shorter bodies go in.
		if e := l.shorten(l.list.bodies()[l.first(last):]); e != api.OK {
			return e
		}
		return api.ErrFull
	}
	l.synced = ahead
	return e
}

// write puts a record at the end of the last chunk, or of the next one: then the disk takes its start, too, or neither.
func (l *Log) write(number int, body string) api.Errno {
	start, parts, used := "", slices.Clone(l.parts), l.used
	if number == len(parts) {
		start, _ = chunk.Start(number, l.size)
		parts, used = append(parts, part{size: l.size}), 0
	}
	record, _ := chunk.Record(body) // what there is room for is never too long
	if e := l.disk.Append(l.file(number), start+record); e != api.OK {
		return e
	}
	parts[number].count++
	l.parts, l.used = parts, used+len(record)
	l.list = l.list.with(strings.Clone(body))
	return api.OK
}

// finish puts a chunk's end, and makes it last, ahead of anything behind it.
func (l *Log) finish(number int) api.Errno {
	end, _ := chunk.Finish(number, l.parts[number].count)
	e := l.disk.Append(l.file(number), end)
	if e == api.OK {
		e = l.disk.Sync(l.file(number))
	}
	return e
}

// remove removes the chunks behind the first ones, from the last one on.
func (l *Log) remove(left int) api.Errno {
	for last := len(l.parts) - 1; last >= left; last-- {
		if e := l.disk.Remove(l.file(last)); e != api.OK {
			return e
		}
		l.parts = l.parts[:last]
	}
	return api.OK
}

// shorten cuts the last chunk behind these of its records.
func (l *Log) shorten(bodies []string) api.Errno {
	last, used := len(l.parts)-1, taken(bodies)
	if e := l.disk.Truncate(l.file(last), l.end(used)); e != api.OK {
		return e
	}
	l.parts, l.used = slices.Clone(l.parts), used
	l.parts[last].count = len(bodies)
	return api.OK
}

// end tells where in the last chunk so many bytes of records end.
func (l *Log) end(used int) int {
	last := len(l.parts) - 1
	start, _ := chunk.Start(last, l.parts[last].size)
	return len(start) + used
}

// mayReplace tells whether bodies may stand in place of those of a chunk.
func (l *Log) mayReplace(number int, bodies []string) bool {
	if len(bodies) != l.parts[number].count {
		return false
	}
	was := l.list.bodies()[l.first(number):]
	for k, body := range bodies {
		if len(body) > len(was[k]) {
			return false
		}
	}
	return true
}

// replace puts other bytes in place of those of a chunk, all or none of them.
func (l *Log) replace(number int, bytes string) api.Errno {
	name := l.prefix + newFile
	e := l.discard(name)
	if e == api.OK {
		e = l.disk.Append(name, bytes)
	}
	if e == api.OK {
		e = l.disk.Sync(name)
	}
	if e == api.OK {
		e = l.disk.Rename(name, l.file(number))
	}
	return e
}

// discard removes a file, if it is there.
func (l *Log) discard(name string) api.Errno {
	e := l.disk.Remove(name)
	if e == api.ErrNone {
		return api.OK
	}
	return e
}

// done tells the bytes of a chunk that is done.
func done(number, size int, bodies []string) string {
	var b strings.Builder
	start, _ := chunk.Start(number, size)
	b.WriteString(start)
	for _, body := range bodies {
		record, _ := chunk.Record(body)
		b.WriteString(record)
	}
	end, _ := chunk.Finish(number, len(bodies))
	b.WriteString(end)
	return b.String()
}

// taken tells how many bytes the frames of records have.
func taken(bodies []string) int {
	n := 0
	for _, body := range bodies {
		n += len(body) + over
	}
	return n
}

// marking tells the frame of a chaser.
func marking(n int) string {
	var o codec.Out
	number, _ := o.I64(n).Done() // any int fits
	b, _ := frame.Put(number)
	return b
}
