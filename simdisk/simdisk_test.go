package simdisk

import (
	"fmt"
	"maps"
	"math"
	"math/rand"
	"slices"
	"strings"
	"testing"
	"unsafe"

	"chronicle/api"
)

func equal[T comparable](t *testing.T, what string, got, want T) {
	t.Helper()
	if got != want {
		t.Errorf("%s: %#v, not %#v", what, got, want)
	}
}

// lies tells whether a text's memory is a piece of the other one's.
func lies(s, in string) bool {
	if s == "" || in == "" {
		return false
	}
	p, q := uintptr(unsafe.Pointer(unsafe.StringData(s))), uintptr(unsafe.Pointer(unsafe.StringData(in)))
	return p >= q && p < q+uintptr(len(in))
}

// holds holds a disk's files, each as its name, its bytes and how many of them are not synced.
func holds(t *testing.T, what string, d *Disk, want string) {
	t.Helper()
	var all []string
	used := 0
	for _, name := range d.List("") {
		n, e := d.Size(name)
		equal(t, what+": Size of "+name, e, api.OK)
		s, e := d.Read(name, 0, n)
		equal(t, what+": Read of "+name, e, api.OK)
		all = append(all, fmt.Sprintf("%s=%s/%d", name, s, d.Unsynced(name)))
		used += n
	}
	equal(t, what, strings.Join(all, " "), want)
	equal(t, what+": Used", d.Used(), used)
}

// steps does calls, each of which must tell OK: a name, and behind it `+` and what is appended, `!` (Sync), `<` and a size (Truncate), `>` and a name (Rename) or `-` (Remove).
func steps(t *testing.T, d *Disk, l ...string) {
	t.Helper()
	for _, s := range l {
		equal(t, s, step(d, s), api.OK)
	}
}

func step(d *Disk, s string) api.Errno {
	k := strings.IndexAny(s, "+!<>-")
	name, rest := s[:k], s[k+1:]
	switch s[k] {
	case '+':
		return d.Append(name, rest)
	case '!':
		return d.Sync(name)
	case '<':
		n := 0
		fmt.Sscan(rest, &n)
		return d.Truncate(name, n)
	case '>':
		return d.Rename(name, rest)
	}
	return d.Remove(name)
}

// made is a disk without a bound, behind such steps.
func made(t *testing.T, l ...string) *Disk {
	t.Helper()
	d := New(0)
	steps(t, d, l...)
	return d
}

// crashed holds what is lost, and what is there behind it.
func crashed(t *testing.T, what string, d *Disk, lost int, want string, keep ...int) {
	t.Helper()
	equal(t, what+": lost", d.Crash(keep...), lost)
	equal(t, what+": On", d.On(), false)
	d.Restore()
	equal(t, what+": On again", d.On(), true)
	holds(t, what, d, want)
}

// calls are all that answer an Errno, each of a name.
func calls() map[string]func(d *Disk, name string) api.Errno {
	return map[string]func(d *Disk, name string) api.Errno{
		"Append":   func(d *Disk, name string) api.Errno { return d.Append(name, "x") },
		"Sync":     func(d *Disk, name string) api.Errno { return d.Sync(name) },
		"Truncate": func(d *Disk, name string) api.Errno { return d.Truncate(name, 0) },
		"Rename":   func(d *Disk, name string) api.Errno { return d.Rename(name, "to") },
		"Remove":   func(d *Disk, name string) api.Errno { return d.Remove(name) },
		"Read": func(d *Disk, name string) api.Errno {
			_, e := d.Read(name, 0, 0)
			return e
		},
		"Size": func(d *Disk, name string) api.Errno {
			_, e := d.Size(name)
			return e
		},
	}
}

// P901

func TestNew(t *testing.T) {
	for _, room := range []int{math.MinInt, -1, 0, 1, 100, math.MaxInt} {
		d := New(room)
		equal(t, "On", d.On(), true)
		holds(t, "files", d, "")
		equal(t, "Append of a byte", d.Append("a", "x"), api.OK)
	}
}

func TestAppend(t *testing.T) {
	d := made(t, "b+", "a+x", "a+", "a+yz", "\x00+0", "é+\xff")
	holds(t, "at the end", d, "\x00=0/1 a=xyz/3 b=/0 é=\xff/1")
	steps(t, d, "a!", "a+12")
	holds(t, "unsynced", d, "\x00=0/1 a=xyz12/2 b=/0 é=\xff/1")
}

func TestNames(t *testing.T) {
	good := []string{"a", " ", "\x00", "\xff", "/", "é", strings.Repeat("n", 39), strings.Repeat("n", 40), strings.Repeat("é", 20)}
	bad := []string{"", strings.Repeat("n", 41), strings.Repeat("é", 20) + "n", strings.Repeat("n", 1000)}
	for what, call := range calls() {
		for _, name := range good {
			d := made(t, "z+")
			equal(t, "Append", d.Append(name, ""), api.OK)
			equal(t, what+" of a name", call(d, name), api.OK)
		}
		for _, name := range bad {
			d := New(1)
			equal(t, "Append", d.Append("a", "x"), api.OK)
			equal(t, what+" of no name", call(d, name), api.ErrArg)
			holds(t, what, d, "a=x/1")
		}
	}
	for _, name := range good {
		d := made(t, "a+x")
		equal(t, "Rename to a name", d.Rename("a", name), api.OK)
		holds(t, "Rename", d, name+"=x/1")
	}
	for _, name := range bad {
		d := made(t, "a+x")
		equal(t, "Rename to no name", d.Rename("a", name), api.ErrArg)
		equal(t, "Rename of none to no name", d.Rename("b", name), api.ErrArg)
		equal(t, "Rename of no name to none", d.Rename(name, name), api.ErrArg)
		holds(t, "Rename", d, "a=x/1")
	}
}

func TestNone(t *testing.T) {
	for what, call := range calls() {
		if what == "Append" {
			continue
		}
		d := made(t, "a+x")
		equal(t, what+" of none", call(d, "b"), api.ErrNone)
		holds(t, what, d, "a=x/1")
	}
	d := made(t, "a+x")
	equal(t, "Truncate of none, out of range", d.Truncate("b", 9), api.ErrNone)
	s, e := d.Read("b", -1, 9)
	equal(t, "Read of none, out of range", e, api.ErrNone)
	equal(t, "beside it", s, "")
	n, e := d.Size("b")
	equal(t, "Size of none", e, api.ErrNone)
	equal(t, "beside it", n, 0)
}

func TestWithoutPower(t *testing.T) {
	for what, call := range calls() {
		d := made(t, "a+x", "a!")
		d.Crash()
		for _, name := range []string{"a", "b", "", strings.Repeat("n", 41)} {
			equal(t, what+" of "+name, call(d, name), api.ErrOff)
		}
		equal(t, "Rename to no name", d.Rename("a", ""), api.ErrOff)
		d.Restore()
		holds(t, what, d, "a=x/0")
	}
	d := made(t, "a+xyz", "a!")
	d.Crash()
	s, _ := d.Read("a", 0, 3)
	equal(t, "bytes", s, "")
	n, _ := d.Size("a")
	equal(t, "size", n, 0)
}

func TestRoomOfBytes(t *testing.T) {
	d := New(5)
	for _, c := range []struct {
		name, data string
		want       api.Errno
	}{{"a", "123456", api.ErrFull}, {"", "123456", api.ErrArg}, {"a", "123", api.OK}, {"a", "456", api.ErrFull}, {"b", "456", api.ErrFull}, {"b", "45", api.OK}, {"b", "6", api.ErrFull}, {"c", "6", api.ErrFull}, {"c", "", api.OK}, {"b", "", api.OK}} {
		equal(t, fmt.Sprint("Append of ", c.data, " to ", c.name), d.Append(c.name, c.data), c.want)
	}
	holds(t, "full", d, "a=123/3 b=45/2 c=/0")
	steps(t, d, "b!", "a<1", "c+67")
	equal(t, "full again", d.Append("c", "8"), api.ErrFull)
	steps(t, d, "c>b", "c+89")
	equal(t, "full again", d.Append("c", "0"), api.ErrFull)
	steps(t, d, "c-", "a+01")
	holds(t, "behind all", d, "a=101/3 b=67/2")
}

func TestRoomOfFiles(t *testing.T) {
	d := New(0)
	for i := range api.MaxFiles {
		equal(t, "one of the first", d.Append(fmt.Sprint("f", i), ""), api.OK)
	}
	equal(t, "one more", d.Append("more", ""), api.ErrFull)
	equal(t, "one more, of no name", d.Append("", ""), api.ErrArg)
	equal(t, "files", len(d.List("")), api.MaxFiles)
	steps(t, d, "f0+x", "f0>f1", "more+")
	equal(t, "one more again", d.Append("f0", ""), api.ErrFull)
	steps(t, d, "f7-", "f0+")
	equal(t, "one more again", d.Append("f7", ""), api.ErrFull)
	d.Crash()
	d.Restore()
	equal(t, "behind a Crash", d.Append("f7", ""), api.OK)
}

func TestSync(t *testing.T) {
	d := made(t, "a+12", "b+34", "a!")
	holds(t, "of one", d, "a=12/0 b=34/2")
	steps(t, d, "a!", "a+5", "b!")
	holds(t, "of the other one", d, "a=125/1 b=34/0")
	crashed(t, "Crash", d, 1, "a=12/0 b=34/0")
}

func TestRead(t *testing.T) {
	all := ""
	for k := range 256 {
		all += string([]byte{byte(k)})
	}
	d := New(0)
	d.Append("a", all[:100])
	d.Append("a", all[100:])
	for at := -2; at < 260; at++ {
		for n := -2; n < 260; n++ {
			s, e := d.Read("a", at, n)
			if at < 0 || n < 0 || at+n > 256 {
				equal(t, fmt.Sprint("from ", at, " on ", n), e, api.ErrRange)
				equal(t, "beside it", s, "")
				continue
			}
			equal(t, fmt.Sprint("from ", at, " on ", n), e, api.OK)
			equal(t, "bytes", s, all[at:at+n])
		}
	}
	for _, at := range []int{math.MinInt, -1, 0, 1, 256, 257, math.MaxInt} {
		for _, n := range []int{math.MinInt, math.MaxInt, math.MaxInt - 1} {
			for _, c := range [][2]int{{at, n}, {n, at}} {
				_, e := d.Read("a", c[0], c[1])
				equal(t, fmt.Sprint("from ", c[0], " on ", c[1]), e, api.ErrRange)
			}
		}
	}
}

func TestMemory(t *testing.T) {
	name, data, to := strings.Clone("name"), strings.Clone("data"), strings.Clone("other")
	d := New(0)
	d.Append(name, data)
	first, _ := d.Read(name, 0, 4)
	second, _ := d.Read(name, 0, 4)
	if lies(first, data) || lies(first, second) {
		t.Error("what is read shares memory")
	}
	old := d.List("")
	d.Append(name, "more")
	d.Rename(name, to)
	now := d.List("")
	if lies(old[0], name) || lies(now[0], to) || lies(now[0], d.List("")[0]) {
		t.Error("a name shares memory")
	}
	equal(t, "what was read", first, "data")
	equal(t, "names of then", strings.Join(old, " "), "name")
	now[0] = "changed"
	holds(t, "behind a change of the names", d, "other=datamore/8")
	keep := []int{1, 2}
	d.Arm(0, keep...)
	keep[0] = 3
	equal(t, "Sync", d.Sync("other"), api.ErrOff)
	equal(t, "Used", d.Used(), 1)
	equal(t, "keep", keep[0]*10+keep[1], 32)
}

// P902

func TestTruncate(t *testing.T) {
	for n := -2; n <= 7; n++ {
		d := made(t, "a+123", "a!", "a+45", "b+x")
		if n < 0 || n > 5 {
			equal(t, fmt.Sprint("to ", n), d.Truncate("a", n), api.ErrRange)
			holds(t, "nothing", d, "a=12345/2 b=x/1")
			continue
		}
		equal(t, fmt.Sprint("to ", n), d.Truncate("a", n), api.OK)
		holds(t, fmt.Sprint("to ", n), d, fmt.Sprintf("a=%s/%d b=x/1", "12345"[:n], max(0, n-3)))
		steps(t, d, "a+67")
		holds(t, "more", d, fmt.Sprintf("a=%s67/%d b=x/1", "12345"[:n], max(0, n-3)+2))
		crashed(t, "Crash", d, max(0, n-3)+2, fmt.Sprintf("a=%s/0 b=x/0", "12345"[:min(n, 3)]), 0, 1)
	}
	d := made(t, "a+123")
	equal(t, "to the greatest", d.Truncate("a", math.MaxInt), api.ErrRange)
	equal(t, "to the least", d.Truncate("a", math.MinInt), api.ErrRange)
}

func TestRename(t *testing.T) {
	d := made(t, "b+123", "b!", "b+45", "d+x", "d!", "d+y")
	steps(t, d, "b>c")
	holds(t, "to no other one", d, "c=12345/2 d=xy/1")
	steps(t, d, "c>c")
	holds(t, "to itself", d, "c=12345/2 d=xy/1")
	steps(t, d, "c>e")
	holds(t, "past another one", d, "d=xy/1 e=12345/2")
	steps(t, d, "e>d")
	holds(t, "to another one", d, "d=12345/2")
	equal(t, "of what is gone", d.Rename("e", "f"), api.ErrNone)
	equal(t, "of none to itself", d.Rename("e", "e"), api.ErrNone)
	steps(t, d, "e+new", "d+6")
	crashed(t, "Crash", d, 6, "d=123/0")
	steps(t, d, "d>a")
	crashed(t, "at once", d, 0, "a=123/0")
}

func TestRenameKeepsWhatWasSynced(t *testing.T) {
	d := made(t, "a+", "b+x", "b!", "a>b")
	holds(t, "never synced", d, "b=/0")
	crashed(t, "never synced, Crash", d, 0, "")
	d = made(t, "a+", "a!", "b+x", "a>b", "b+y")
	crashed(t, "synced, Crash", d, 1, "b=/0")
}

func TestRemove(t *testing.T) {
	d := made(t, "a+123", "a!", "b+x", "b!", "c+y", "a-")
	holds(t, "gone", d, "b=x/0 c=y/1")
	equal(t, "again", d.Remove("a"), api.ErrNone)
	equal(t, "Unsynced", d.Unsynced("a"), 0)
	steps(t, d, "c-")
	crashed(t, "at once", d, 0, "b=x/0")
	steps(t, d, "b-", "b+")
	crashed(t, "a new one of that name", d, 0, "")
}

// P903

func TestCrash(t *testing.T) {
	for _, c := range []struct {
		keep []int
		lost int
		want string
	}{
		{nil, 7, "a=12/0 c=/0 d=/0"},
		{[]int{0, 0, 0, 0, 0}, 7, "a=12/0 c=/0 d=/0"},
		{[]int{1}, 6, "a=123/0 c=/0 d=/0"},
		{[]int{2}, 5, "a=1234/0 c=/0 d=/0"},
		{[]int{3}, 5, "a=1234/0 c=/0 d=/0"},
		{[]int{-1, 1}, 6, "a=12/0 b=x/0 c=/0 d=/0"},
		{[]int{math.MinInt, 2}, 6, "a=12/0 b=x/0 c=/0 d=/0"},
		{[]int{0, 0, 1, 2}, 5, "a=12/0 c=/0 d=67/0"},
		{[]int{0, 0, 9, 3, 9, 9}, 4, "a=12/0 c=/0 d=678/0"},
		{[]int{math.MaxInt, math.MaxInt, math.MaxInt, math.MaxInt, math.MaxInt}, 0, "a=1234/0 b=x/0 c=/0 d=6789/0"},
	} {
		d := made(t, "a+12", "a!", "a+34", "b+x", "c+", "c!", "d+5", "d!", "d<0", "d+6789", "e+")
		crashed(t, fmt.Sprint("keep ", c.keep), d, c.lost, c.want, c.keep...)
		crashed(t, "once more", d, 0, c.want, c.keep...)
	}
}

func TestCrashWithoutPower(t *testing.T) {
	d := made(t, "a+12", "a!", "a+34")
	equal(t, "lost", d.Crash(1), 1)
	equal(t, "lost", d.Crash(), 0)
	equal(t, "lost", d.Crash(9), 0)
	d.Restore()
	d.Restore()
	holds(t, "left", d, "a=123/0")
	steps(t, d, "a+4")
	d.Restore()
	holds(t, "Restore with power", d, "a=1234/1")
}

func TestCrashSyncsWhatStays(t *testing.T) {
	d := made(t, "a+12")
	crashed(t, "of bytes that were never synced", d, 1, "a=1/0", 1)
	steps(t, d, "a<0")
	crashed(t, "of what stayed once, and has no byte now", d, 0, "a=/0")
}

// changes are calls on a disk that has `a=12/0 b=x/1`, and whose power goes: what of it stays with all kept, and without.
func changes() map[string][2]string {
	return map[string][2]string{
		"a+34": {"a=1234/0 b=x/0", "a=12/0"},
		"b+":   {"a=12/0 b=x/0", "a=12/0"},
		"c+5":  {"a=12/0 b=x/0 c=5/0", "a=12/0"},
		"c+":   {"a=12/0 b=x/0", "a=12/0"},
		"b!":   {"a=12/0 b=x/0", "a=12/0"},
		"a!":   {"a=12/0 b=x/0", "a=12/0"},
		"a<1":  {"a=12/0 b=x/0", "a=12/0"},
		"a<2":  {"a=12/0 b=x/0", "a=12/0"},
		"b>a":  {"a=12/0 b=x/0", "a=12/0"},
		"a>a":  {"a=12/0 b=x/0", "a=12/0"},
		"a>c":  {"a=12/0 b=x/0", "a=12/0"},
		"a-":   {"a=12/0 b=x/0", "a=12/0"},
	}
}

func TestArm(t *testing.T) {
	for s, want := range changes() {
		for k, keep := range [][]int{{9, 9, 9}, nil} {
			d := made(t, "a+12", "a!", "b+x")
			d.Arm(0, keep...)
			equal(t, "On", d.On(), true)
			equal(t, s, step(d, s), api.ErrOff)
			equal(t, s+": On", d.On(), false)
			d.Restore()
			holds(t, fmt.Sprint(s, " at the Crash, keep ", keep), d, want[k])
			steps(t, d, "z+1", "z+2", "z!")
		}
	}
}

func TestArmCounts(t *testing.T) {
	l := []string{"a+3", "b!", "a<2", "b>c", "c>c", "c-", "d+", "a!"}
	for n := range len(l) + 2 {
		d, plain := made(t, "a+12", "b+x"), made(t, "a+12", "b+x")
		d.Arm(n, 1)
		for k, s := range l {
			equal(t, "another", d.Sync("none"), api.ErrNone)
			equal(t, "another", d.Append("", "x"), api.ErrArg)
			equal(t, "another", d.Truncate("a", 99), api.ErrRange)
			equal(t, "another", d.Rename("none", "a"), api.ErrNone)
			equal(t, "another", d.Remove("none"), api.ErrNone)
			d.Read("a", 0, 1)
			d.Size("a")
			d.List("")
			if k == n {
				equal(t, fmt.Sprint(s, ", armed for ", n), step(d, s), api.ErrOff)
				if s[1] == '+' {
					steps(t, plain, s)
				}
				plain.Crash(1)
				break
			}
			equal(t, fmt.Sprint(s, ", armed for ", n), step(d, s), api.OK)
			steps(t, plain, s)
		}
		equal(t, fmt.Sprint("On, armed for ", n), d.On(), n >= len(l))
		equal(t, "Used", d.Used(), plain.Used())
		d.Restore()
		plain.Restore()
		equal(t, "names", strings.Join(d.List(""), " "), strings.Join(plain.List(""), " "))
	}
}

func TestArmFull(t *testing.T) {
	d := New(3)
	d.Arm(0, 9)
	equal(t, "too much", d.Append("a", "1234"), api.ErrFull)
	equal(t, "On", d.On(), true)
	equal(t, "enough", d.Append("a", "123"), api.ErrOff)
	d.Restore()
	holds(t, "behind it", d, "a=123/0")
}

func TestNotArmed(t *testing.T) {
	d := made(t, "a+12", "a!")
	for _, n := range []int{-1, math.MinInt} {
		d.Arm(0)
		d.Arm(n, 5)
		steps(t, d, "a+3", "a!")
	}
	d.Arm(0)
	d.Crash()
	d.Restore()
	steps(t, d, "a+3", "a!", "a!")
	d.Arm(1)
	d.Arm(3, 1)
	steps(t, d, "a+4", "a+5", "a!")
	equal(t, "armed anew", d.Append("a", "67"), api.ErrOff)
	d.Restore()
	steps(t, d, "a+8", "a!")
	holds(t, "behind it", d, "a=123334568/0")
	d.Arm(math.MaxInt)
	steps(t, d, "a+9")
}

func TestArmWithoutPower(t *testing.T) {
	d := made(t, "a+12", "a!")
	d.Crash()
	d.Arm(1, 1)
	equal(t, "without power", d.Sync("a"), api.ErrOff)
	equal(t, "Crash", d.Crash(), 0)
	d.Restore()
	steps(t, d, "a+34")
	equal(t, "the next one", d.Append("b", "x"), api.ErrOff)
	d.Restore()
	holds(t, "behind it", d, "a=123/0")
}

// P904

func TestList(t *testing.T) {
	d := made(t, "b+", "ab+", "a+", "abc+", "\xff+", "B+")
	for prefix, want := range map[string]string{"": "B a ab abc b \xff", "a": "a ab abc", "ab": "ab abc", "abc": "abc", "abcd": "", "c": "", "b": "b", "\xff": "\xff", strings.Repeat("n", 50): ""} {
		equal(t, "of "+prefix, strings.Join(d.List(prefix), " "), want)
	}
	for _, name := range d.List("") {
		d.Sync(name)
	}
	d.Crash()
	equal(t, "without power", len(d.List("")), 0)
	d.Restore()
	equal(t, "with power again", len(d.List("")), 6)
}

func TestUsed(t *testing.T) {
	d := made(t, "a+12", "b+345", "a!", "c+")
	equal(t, "of all", d.Used(), 5)
	d.Crash(0, 1)
	equal(t, "without power", d.Used(), 3)
}

func TestUnsynced(t *testing.T) {
	d := made(t, "a+12", "b+345", "a!", "a+6")
	for name, want := range map[string]int{"a": 1, "b": 3, "c": 0, "": 0, strings.Repeat("n", 41): 0} {
		equal(t, "of "+name, d.Unsynced(name), want)
	}
	d.Crash(9, 9)
	equal(t, "without power", d.Unsynced("b"), 0)
}

func TestRoom(t *testing.T) {
	d := New(3)
	steps(t, d, "a+123")
	equal(t, "full", d.Append("a", "4"), api.ErrFull)
	d.Room(4)
	steps(t, d, "a+4")
	equal(t, "full", d.Append("a", "5"), api.ErrFull)
	d.Room(2)
	equal(t, "more than there is room", d.Append("a", ""), api.ErrFull)
	equal(t, "a new one", d.Append("b", ""), api.ErrFull)
	holds(t, "nothing is gone", d, "a=1234/4")
	steps(t, d, "a!", "a<2", "b+")
	for _, n := range []int{0, -1, math.MinInt, math.MaxInt} {
		d.Room(2)
		equal(t, "full", d.Append("b", "5"), api.ErrFull)
		d.Room(n)
		steps(t, d, "b+5")
		d.Room(2)
		steps(t, d, "b<0")
	}
	d.Crash()
	d.Room(3)
	d.Restore()
	steps(t, d, "a+5")
	equal(t, "full", d.Append("a", "6"), api.ErrFull)
}

// apart holds that what is done to the one disk isn't seen in the other one, which is the same.
func apart(t *testing.T, what string, make func() (one, other *Disk)) {
	t.Helper()
	for _, s := range []string{"a+34", "a!", "a<1", "a>b", "b>a", "a>z", "b-", "c+", "c<0"} {
		one, other := make()
		steps(t, one, s)
		holds(t, what+": the other one, behind "+s, other, "a=12y/1 b=x/1 c=/0")
		steps(t, other, "a+67", "b+8")
		holds(t, what+": the other one", other, "a=12y67/3 b=x8/2 c=/0")
	}
	one, other := make()
	steps(t, one, "a+one", "b+one")
	steps(t, other, "a+another", "b+an")
	steps(t, one, "a+!", "b+!")
	holds(t, what+": one", one, "a=12yone!/5 b=xone!/5 c=/0")
	holds(t, what+": other", other, "a=12yanother/8 b=xan/3 c=/0")
	crashed(t, what+": one", one, 8, "a=12y/0 b=x/0 c=/0", 1, 1)
	holds(t, what+": other", other, "a=12yanother/8 b=xan/3 c=/0")
	one.Room(1)
	one.Arm(0)
	steps(t, other, "a+more")
	equal(t, what+": room of one", one.Append("a", "x"), api.ErrFull)
}

func TestTwin(t *testing.T) {
	first := func() *Disk { return made(t, "a+12", "a!", "a+y", "b+x", "c+", "c!") }
	apart(t, "Twin", func() (*Disk, *Disk) { d := first(); return d, d.Twin() })
	apart(t, "what has a Twin", func() (*Disk, *Disk) { d := first(); return d.Twin(), d })
	apart(t, "copy", func() (*Disk, *Disk) { d := first(); c := *d; return d, &c })
	apart(t, "what was copied", func() (*Disk, *Disk) { d := first(); c := *d; return &c, d })
}

func TestTwinIsTheSame(t *testing.T) {
	d := New(6)
	steps(t, d, "a+12", "a!", "a+3", "b+4", "c+", "c!", "e+")
	d.Arm(1, 0, 1)
	for what, x := range map[string]*Disk{"it": d.Twin(), "its twin": d.Twin().Twin()} {
		holds(t, what, x, "a=123/1 b=4/1 c=/0 e=/0")
		equal(t, what+": room", x.Append("a", "567"), api.ErrFull)
		equal(t, what+": armed", x.Append("a", "5"), api.OK)
		equal(t, what+": the next one", x.Append("a", "6"), api.ErrOff)
		x = x.Twin()
		equal(t, what+": without power", x.On(), false)
		x.Restore()
		holds(t, what+": what is kept", x, "a=12/0 b=4/0 c=/0")
	}
	holds(t, "the first one", d, "a=123/1 b=4/1 c=/0 e=/0")
	steps(t, d, "a+5")
	equal(t, "the next one", d.Sync("a"), api.ErrOff)
}

func TestTwinSharesNoMemory(t *testing.T) {
	d := made(t, "a+12", "b+x")
	d.Arm(5, 1)
	twin := d.Twin()
	for k := range d.files {
		if d.files[k] == twin.files[k] || d.files[k].pool == twin.files[k].pool || &d.files[k].pool.bytes[0] == &twin.files[k].pool.bytes[0] {
			t.Error("a file of a Twin shares memory")
		}
	}
	if &d.files[0] == &twin.files[0] || &d.keep[0] == &twin.keep[0] {
		t.Error("a list of a Twin shares memory")
	}
}

func TestCutBytesAreLetGo(t *testing.T) {
	d := made(t, "a+12345", "a!", "a+678", "a<6")
	equal(t, "bytes in memory behind a Truncate", len(d.files[0].pool.bytes), 6)
	d.Crash()
	equal(t, "bytes in memory behind a Crash", len(d.files[0].pool.bytes), 5)
}

func TestNil(t *testing.T) {
	var none *Disk
	var zero Disk
	for what, d := range map[string]*Disk{"nil": none, "zero": &zero, "twin of a zero one": zero.Twin()} {
		for name, call := range calls() {
			equal(t, name+" of "+what, call(d, "a"), api.ErrOff)
			equal(t, name+" of "+what+", no name", call(d, ""), api.ErrOff)
		}
		d.Arm(1, 2)
		d.Room(3)
		d.Restore()
		equal(t, what+": On", d.On(), false)
		equal(t, what+": List", len(d.List("")), 0)
		equal(t, what+": Used", d.Used(), 0)
		equal(t, what+": Unsynced", d.Unsynced("a"), 0)
		equal(t, what+": Crash", d.Crash(1), 0)
		equal(t, what+": Append", d.Append("a", "x"), api.ErrOff)
	}
	equal(t, "Twin of nil", none.Twin() == nil, true)
}

func TestExample(t *testing.T) {
	d := made(t, "a+xy", "a!", "a+zz")
	d.Crash(1)
	d.Restore()
	s, e := d.Read("a", 0, 3)
	equal(t, "Read", s, "xyz")
	equal(t, "error", e, api.OK)
}

// All calls, held against a disk that is written down plainly.

type plainFile struct {
	synced, rest string
	once         bool
}

type plainDisk struct {
	files map[string]plainFile
	room  int
	armed int // calls left; -1: not armed
	keep  []int
	off   bool
}

func (p *plainDisk) crash(keep []int) int {
	lost := 0
	for i, name := range slices.Sorted(maps.Keys(p.files)) {
		f := p.files[name]
		k := 0
		if i < len(keep) && keep[i] > 0 {
			k = min(keep[i], len(f.rest))
		}
		lost += len(f.rest) - k
		f.synced, f.rest = f.synced+f.rest[:k], ""
		if f.synced == "" && !f.once {
			delete(p.files, name)
			continue
		}
		f.once = true
		p.files[name] = f
	}
	p.off, p.armed = true, -1
	return lost
}

// do does what is found to be right, if the power doesn't go.
func (p *plainDisk) do(change func()) api.Errno {
	if p.armed == 0 {
		p.crash(p.keep)
		return api.ErrOff
	}
	p.armed = max(p.armed-1, -1)
	change()
	return api.OK
}

func (p *plainDisk) used() int {
	n := 0
	for _, f := range p.files {
		n += len(f.synced) + len(f.rest)
	}
	return n
}

func (p *plainDisk) append(name, data string) api.Errno {
	f, there := p.files[name]
	if p.off {
		return api.ErrOff
	}
	if !there && len(p.files) == api.MaxFiles || p.room > 0 && p.used()+len(data) > p.room {
		return api.ErrFull
	}
	f.rest += data
	p.files[name] = f
	return p.do(func() {})
}

func (p *plainDisk) of(name string, change func(f plainFile)) api.Errno {
	f, there := p.files[name]
	if p.off {
		return api.ErrOff
	}
	if !there {
		return api.ErrNone
	}
	return p.do(func() { change(f) })
}

func (p *plainDisk) truncate(name string, n int) api.Errno {
	f, there := p.files[name]
	if !p.off && there && (n < 0 || n > len(f.synced)+len(f.rest)) {
		return api.ErrRange
	}
	return p.of(name, func(f plainFile) {
		all := f.synced + f.rest
		k := min(n, len(f.synced))
		p.files[name] = plainFile{all[:k], all[k:n], f.once}
	})
}

func (p *plainDisk) rename(from, to string) api.Errno {
	return p.of(from, func(f plainFile) {
		delete(p.files, from)
		p.files[to] = f
	})
}

func (p *plainDisk) show() string {
	if p.off {
		return fmt.Sprint("off ", p.used())
	}
	out := ""
	for _, name := range slices.Sorted(maps.Keys(p.files)) {
		f := p.files[name]
		out += fmt.Sprintf("%s=%s/%d ", name, f.synced+f.rest, len(f.rest))
	}
	return out
}

func showDisk(d *Disk) string {
	if !d.On() {
		return fmt.Sprint("off ", d.Used())
	}
	out := ""
	for _, name := range d.List("") {
		n, _ := d.Size(name)
		s, _ := d.Read(name, 0, n)
		out += fmt.Sprintf("%s=%s/%d ", name, s, d.Unsynced(name))
	}
	return out
}

func TestAgainstPlain(t *testing.T) {
	draw := rand.New(rand.NewSource(9))
	for range 300 {
		d, p := New(30), &plainDisk{files: map[string]plainFile{}, room: 30, armed: -1}
		for range 120 {
			name, other := string(rune('a'+draw.Intn(4))), string(rune('a'+draw.Intn(4)))
			k, n := draw.Intn(100), draw.Intn(6)-1
			keep := []int{draw.Intn(5) - 1, draw.Intn(5) - 1, draw.Intn(5) - 1}[:draw.Intn(4)]
			got, want, what := api.OK, api.OK, ""
			switch {
			case k < 35:
				data := "0123456789"[n+1 : n+1+draw.Intn(4)]
				what, got, want = "Append "+name+" "+data, d.Append(name, data), p.append(name, data)
			case k < 50:
				what, got, want = "Sync "+name, d.Sync(name), p.of(name, func(f plainFile) { p.files[name] = plainFile{f.synced + f.rest, "", true} })
			case k < 60:
				what, got, want = fmt.Sprint("Truncate ", name, n), d.Truncate(name, n), p.truncate(name, n)
			case k < 68:
				what, got, want = "Rename "+name+other, d.Rename(name, other), p.rename(name, other)
			case k < 74:
				what, got, want = "Remove "+name, d.Remove(name), p.of(name, func(plainFile) { delete(p.files, name) })
			case k < 78:
				lost := 0
				if !p.off {
					lost = p.crash(keep)
				}
				what = "Crash"
				equal(t, what, d.Crash(keep...), lost)
			case k < 88:
				what = "Restore"
				d.Restore()
				p.off = false
			case k < 93:
				what = "Arm"
				d.Arm(n, keep...)
				p.armed, p.keep = n, keep
			case k < 96:
				what = "Room"
				d.Room(n * 10)
				p.room = n * 10
			default:
				what = "Twin"
				d = d.Twin()
			}
			equal(t, what, got, want)
			equal(t, "behind "+what, showDisk(d), p.show())
			if t.Failed() {
				return
			}
		}
	}
}

func TestManyBytes(t *testing.T) {
	d := New(0)
	for range 300000 {
		d.Append("a", "x")
	}
	equal(t, "Used", d.Used(), 300000)
	equal(t, "lost", d.Crash(299999), 1)
}
