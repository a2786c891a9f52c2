// Package codec lays numbers and texts into bytes.
package codec

import (
	"math"
	"strconv"
	"strings"

	"chronicle/api"
)

const (
	nan        = 0x7ff8000000000000 // the bits that stand for every NaN
	mostText   = 65536              // bytes of a text that is put
	mostDigits = 18                 // digits of a number; as many always fit an int
)

// pool holds bytes that are added to and never written over: an Out that was copied shares them with its copy, and neither sees what the other one puts.
type pool struct{ bytes []byte }

// Out puts things one behind the other.
type Out struct {
	pool *pool
	used int // how many of the pool's bytes are this one's
	err  api.Errno
}

// U8 puts a number in a byte.
func (o *Out) U8(v int) *Out {
	if v < 0 || v > math.MaxUint8 {
		return o.fail(api.ErrArg)
	}
	return o.number(uint64(v), 1)
}

// U32 puts a number in four bytes.
func (o *Out) U32(v int) *Out {
	if v < 0 || v > math.MaxUint32 {
		return o.fail(api.ErrArg)
	}
	return o.number(uint64(v), 4)
}

// U64 puts a number in eight bytes.
func (o *Out) U64(v uint64) *Out { return o.number(v, 8) }

// I64 puts an int, a negative one as its complement.
func (o *Out) I64(v int) *Out { return o.number(uint64(v), 8) }

// F64 puts a float64, each NaN as the one.
func (o *Out) F64(f float64) *Out { return o.number(bitsOf(f), 8) }

// Text puts a text behind its length.
func (o *Out) Text(s string) *Out {
	if len(s) > mostText {
		return o.fail(api.ErrLong)
	}
	return o.U32(len(s)).put(s)
}

// Len tells how many bytes there are.
func (o *Out) Len() int {
	if o == nil {
		return 0
	}
	return o.used
}

// Done tells the bytes, or the first error.
func (o *Out) Done() (string, api.Errno) {
	if o == nil {
		return "", api.ErrArg
	}
	if o.err != api.OK {
		return "", o.err
	}
	return o.text(), api.OK
}

// number puts the lowest bytes of v, so many of them, the highest first.
func (o *Out) number(v uint64, bytes int) *Out {
	var b [8]byte
	for k := range bytes {
		b[k] = byte(v >> (8 * (bytes - 1 - k)))
	}
	return o.put(string(b[:bytes]))
}

func (o *Out) put(s string) *Out {
	if o == nil || o.err != api.OK {
		return o
	}
	// A pool that goes on behind this one's bytes has those of a copy there.
	if o.pool == nil || len(o.pool.bytes) != o.used {
		o.pool = &pool{[]byte(o.text())}
	}
	o.pool.bytes = append(o.pool.bytes, s...)
	o.used = len(o.pool.bytes)
	return o
}

func (o *Out) text() string {
	if o.pool == nil {
		return ""
	}
	return string(o.pool.bytes[:o.used])
}

func (o *Out) fail(e api.Errno) *Out {
	if o != nil && o.err == api.OK {
		o.err = e
	}
	return o
}

// In reads things from the front on.
type In struct {
	rest string // empty with an error
	err  api.Errno
}

// NewIn makes a reader.
func NewIn(b string) *In { return &In{rest: b} }

// U8 reads a byte.
func (i *In) U8() int { return int(i.number(1)) }

// U32 reads a number of four bytes.
func (i *In) U32() int { return int(i.number(4)) }

// U64 reads a number of eight bytes.
func (i *In) U64() uint64 { return i.number(8) }

// I64 reads an int.
func (i *In) I64() int { return int(i.number(8)) }

// F64 reads a float64, each NaN as the one.
func (i *In) F64() float64 {
	return math.Float64frombits(bitsOf(math.Float64frombits(i.number(8))))
}

// Text reads a text of at most so many bytes.
func (i *In) Text(most int) string {
	n := i.U32()
	if i.Err() == api.OK && n > most {
		i.fail(api.ErrLong)
	}
	// A piece of what was handed in would share its memory.
	return strings.Clone(i.take(n))
}

// Err tells the first error.
func (i *In) Err() api.Errno {
	if i == nil {
		return api.ErrArg
	}
	return i.err
}

// Left tells how many bytes are left.
func (i *In) Left() int {
	if i == nil {
		return 0
	}
	return len(i.rest)
}

// End tells whether all was read.
func (i *In) End() api.Errno {
	if i.Left() > 0 {
		i.fail(api.ErrForm)
	}
	return i.Err()
}

// number reads a number of so many bytes, the highest first.
func (i *In) number(bytes int) uint64 {
	v := uint64(0)
	for _, c := range []byte(i.take(bytes)) {
		v = v<<8 | uint64(c)
	}
	return v
}

// take reads so many bytes, or none.
func (i *In) take(bytes int) string {
	if i.Err() != api.OK {
		return ""
	}
	if len(i.rest) < bytes {
		i.fail(api.ErrShort)
		return ""
	}
	s := i.rest[:bytes]
	i.rest = i.rest[bytes:]
	return s
}

// fail is asked only where there is a reader without an error.
func (i *In) fail(e api.Errno) { i.err, i.rest = e, "" }

func bitsOf(f float64) uint64 {
	if math.IsNaN(f) {
		return nan
	}
	return math.Float64bits(f)
}

// Digits tells an int in digits.
func Digits(v int) string { return strconv.Itoa(v) }

// Number tells the int of digits.
func Number(s string) (int, api.Errno) {
	digits := strings.TrimPrefix(s, "-")
	if len(digits) < 1 || len(digits) > mostDigits || digits[0] == '0' && s != "0" {
		return 0, api.ErrArg
	}
	v := 0
	for _, c := range []byte(digits) {
		if c < '0' || c > '9' {
			return 0, api.ErrArg
		}
		v = 10*v + int(c-'0')
	}
	if len(digits) < len(s) {
		v = -v
	}
	return v, api.OK
}
