package chunklog

import (
	"encoding/binary"
	"fmt"
	"hash/crc32"
	"maps"
	"math"
	"slices"
	"strings"
	"testing"
	"unsafe"

	"chronicle/api"
	"chronicle/simdisk"
)

func equal[T comparable](t *testing.T, what string, got, want T) {
	t.Helper()
	if got != want {
		t.Errorf("%s: %.300s, not %.300s", what, fmt.Sprintf("%#v", got), fmt.Sprintf("%#v", want))
	}
}

func alike[T comparable](t *testing.T, what string, got, want []T) {
	t.Helper()
	if !slices.Equal(got, want) {
		t.Errorf("%s: %d %.300s, not %d %.300s", what, len(got), fmt.Sprintf("%#v", got), len(want), fmt.Sprintf("%#v", want))
	}
}

// long is a text of so many bytes, none of them like the next one.
func long(bytes int) string {
	b := make([]byte, bytes)
	for k := range b {
		b[k] = byte(k*k*31 + k + bytes*73)
	}
	return string(b)
}

// same is a text of one letter, so many times.
func same(letter byte, bytes int) string { return strings.Repeat(string([]byte{letter}), bytes) }

// lies says whether a text's bytes are some of another one's.
func lies(s, in string) bool {
	at, from := uintptr(unsafe.Pointer(unsafe.StringData(s))), uintptr(unsafe.Pointer(unsafe.StringData(in)))
	return from <= at && at < from+uintptr(len(in))
}

// framed is the frame of any body, reckoned without the project's packages; likewise all that follows of a log's files.
func framed(body string) string {
	length := string(binary.BigEndian.AppendUint32(nil, uint32(len(body))))
	sum := binary.BigEndian.AppendUint32(nil, crc32.ChecksumIEEE([]byte(length+body)))
	return length + string(sum) + body + length
}

// numbers lays ints in eight bytes each.
func numbers(l ...int) string {
	var b []byte
	for _, v := range l {
		b = binary.BigEndian.AppendUint64(b, uint64(v))
	}
	return string(b)
}

func start(number, size int) string   { return framed("\x00CHNK" + numbers(number, size)) }
func finish(number, count int) string { return framed("\x02DONE" + numbers(number, count)) }
func marked(n int) string             { return framed(numbers(n)) }

func records(bodies ...string) string {
	b := ""
	for _, body := range bodies {
		b += framed("\x01" + body)
	}
	return b
}

// doneChunk is a whole chunk of the size 100.
func doneChunk(number int, bodies ...string) string {
	return start(number, 100) + records(bodies...) + finish(number, len(bodies))
}

func chunkFile(prefix string, number int) string { return fmt.Sprintf("%s%06d", prefix, number) }

// spread says which bodies stand together in chunks of that size.
func spread(size int, bodies []string) [][]string {
	var chunks [][]string
	used := 0
	for _, body := range bodies {
		room := min(max(size-used-13, 0), 3999)
		if len(chunks) == 0 || len(body) > room {
			chunks, used = append(chunks, nil), 0
		}
		last := len(chunks) - 1
		chunks[last] = append(chunks[last], body)
		used += len(body) + 13
	}
	return chunks
}

// filesOf are the files of a log of the prefix p.
func filesOf(size int, chunks [][]string) map[string]string {
	m := map[string]string{}
	for k, bodies := range chunks {
		b := start(k, size) + records(bodies...)
		if k < len(chunks)-1 {
			b += finish(k, len(bodies))
		}
		m[chunkFile("p", k)] = b
	}
	return m
}

func counts(chunks [][]string) []int {
	var l []int
	for _, bodies := range chunks {
		l = append(l, len(bodies))
	}
	return l
}

// disk is one with such files, all of them synced.
func disk(t *testing.T, files map[string]string) *simdisk.Disk {
	t.Helper()
	d := simdisk.New(0)
	for name, bytes := range files {
		equal(t, "Append of "+name, d.Append(name, bytes), api.OK)
		equal(t, "Sync of "+name, d.Sync(name), api.OK)
	}
	return d
}

func bytesOf(d *simdisk.Disk, name string) string {
	size, _ := d.Size(name)
	b, _ := d.Read(name, 0, size)
	return b
}

// holds holds which files a disk has.
func holds(t *testing.T, what string, d *simdisk.Disk, want map[string]string) {
	t.Helper()
	alike(t, what+": files", d.List(""), slices.Sorted(maps.Keys(want)))
	for name, bytes := range want {
		equal(t, what+": "+name, bytesOf(d, name), bytes)
	}
}

// files are all files of a disk.
func files(d *simdisk.Disk) map[string]string {
	m := map[string]string{}
	for _, name := range d.List("") {
		m[name] = bytesOf(d, name)
	}
	return m
}

func opened(t *testing.T, d *simdisk.Disk, size int) *Log {
	t.Helper()
	l, e := Open(d, "p", size)
	if e != api.OK || l == nil {
		t.Fatalf("Open: %v, %d", l, e)
	}
	return l
}

// refused holds that Open tells an error, and no log.
func refused(t *testing.T, what string, d *simdisk.Disk, prefix string, size int, want api.Errno) {
	t.Helper()
	l, e := Open(d, prefix, size)
	equal(t, what+": error", e, want)
	if l != nil {
		t.Errorf("%s: a log beside the error", what)
	}
}

func appends(t *testing.T, l *Log, bodies ...string) {
	t.Helper()
	was := l.Len()
	n, e := l.Append(bodies...)
	equal(t, "Append", n, was)
	equal(t, "Append: error", e, api.OK)
}

// has holds what all of a log's calls tell of its records.
func has(t *testing.T, what string, l *Log, chunks [][]string, synced int) {
	t.Helper()
	bodies := slices.Concat(chunks...)
	equal(t, what+": Len", l.Len(), len(bodies))
	equal(t, what+": Synced", l.Synced(), synced)
	alike(t, what+": Chunks", l.Chunks(), counts(chunks))
	alike(t, what+": Range", l.Range(0, math.MaxInt), bodies)
	back := l.Back(math.MaxInt, math.MaxInt)
	slices.Reverse(back)
	alike(t, what+": Back", back, bodies)
	if l.Broken() {
		return
	}
	for k, body := range bodies {
		got, e := l.Get(k)
		equal(t, what+": Get", got, body)
		equal(t, what+": Get: error", e, api.OK)
	}
}

// some are bodies that come to chunks of 2, 1, 2 and 1 records, of the size 100.
func some() []string {
	return []string{"a", "b", same('c', 60), same('d', 61), same('e', 13), same('f', 13)}
}

func spreadSome() [][]string { return spread(100, some()) }

// P1101

func TestOpenOfWhatCantBe(t *testing.T) {
	d := disk(t, map[string]string{"pnew": "x", "p000000": "x", "pmark": "x", "new": "x"})
	was := files(d)
	refused(t, "a nil disk", nil, "p", 100, api.ErrArg)
	for _, prefix := range []string{"", long(21), long(22), long(40), long(1000)} {
		refused(t, fmt.Sprint("prefix of bytes ", len(prefix)), d, prefix, 100, api.ErrArg)
	}
	for _, size := range []int{99, 98, 1, 0, -1, -100, 1_000_001, 1_000_002, 1<<32 + 100, math.MaxInt, math.MinInt} {
		refused(t, fmt.Sprint("size ", size), d, "p", size, api.ErrArg)
	}
	holds(t, "behind them", d, was)
	d.Crash()
	refused(t, "no power either", d, "", 100, api.ErrArg)
	refused(t, "no power either", d, "p", 99, api.ErrArg)
}

func TestOpenOfNothing(t *testing.T) {
	for _, prefix := range []string{"p", "log", "\x00", "é", "0", "000000", long(19), long(20)} {
		for _, size := range []int{100, 101, 5000, 999_999, 1_000_000} {
			d := simdisk.New(0)
			l, e := Open(d, prefix, size)
			equal(t, "Open", e, api.OK)
			has(t, "a new log", l, nil, 0)
			equal(t, "Marked", l.Marked(), 0)
			equal(t, "Broken", l.Broken(), false)
			holds(t, "no file is made", d, nil)
			equal(t, "Sync", l.Sync(), api.OK)
			holds(t, "by a Sync neither", d, nil)
			appends(t, l, "a")
			equal(t, "Mark", l.Mark(1), api.OK)
			holds(t, "its files", d, map[string]string{prefix + "000000": start(0, size) + records("a"), prefix + "mark": marked(1)})
		}
	}
}

func TestOpenOfWhatStandsThere(t *testing.T) {
	for n := range len(some()) + 1 {
		chunks := spread(100, some()[:n])
		d := disk(t, filesOf(100, chunks))
		l := opened(t, d, 100)
		has(t, "opened", l, chunks, n)
		holds(t, "opened", d, filesOf(100, chunks))
		appends(t, l, some()[n:]...)
		has(t, "gone on with", l, spreadSome(), max(n, 5)) // the last chunk has one record
		holds(t, "gone on with", d, filesOf(100, spreadSome()))
		has(t, "opened anew", opened(t, d, 100), spreadSome(), 6)
	}
}

func TestOpenWithoutPower(t *testing.T) {
	d := disk(t, filesOf(100, spreadSome()))
	d.Crash()
	refused(t, "no power", d, "p", 100, api.ErrOff)
	d.Restore()
	has(t, "power again", opened(t, d, 100), spreadSome(), 6)
	empty := simdisk.New(0)
	empty.Crash()
	refused(t, "no power, no file", empty, "p", 100, api.ErrOff)
	refused(t, "a zero disk", &simdisk.Disk{}, "p", 100, api.ErrOff)
}

// TestOpenOfSomeFirstBytes cuts the last chunk off at each place.
func TestOpenOfSomeFirstBytes(t *testing.T) {
	ahead := []string{same('c', 60), "d", same('e', 80)}
	for _, bodies := range [][]string{{"f"}, {"", "f", ""}, {"\x02DONE", "", "gh"}} {
		last := start(2, 100) + records(bodies...) + finish(2, len(bodies))
		ends := []int{len(start(2, 100))}
		for k := range bodies {
			ends = append(ends, len(start(2, 100)+records(bodies[:k+1]...)))
		}
		for k := range len(last) + 1 {
			chunks := [][]string{ahead[:2], ahead[2:]}
			there, is := slices.BinarySearch(ends, k)
			if !is {
				there--
			}
			if there >= 0 {
				chunks = append(chunks, bodies[:there])
			}
			want := filesOf(100, chunks)
			have := filesOf(100, append(chunks[:2:2], nil))
			have[chunkFile("p", 2)] = last[:k]
			d := disk(t, have)
			l := opened(t, d, 100)
			what := fmt.Sprint("first bytes ", k)
			has(t, what, l, chunks, 3+max(there, 0))
			holds(t, what, d, want)
		}
	}
}

// TestOpenOfATornStart: of the very first chunk, too.
func TestOpenOfATornStart(t *testing.T) {
	torn := []string{"", "x", long(5000), framed(""), framed("\x00CHNK"), records("a"), finish(0, 0), "x" + start(0, 100), start(0, 99), start(-1, 100), start(1_000_000, 100), start(0, 1_000_001)}
	for k := range start(0, 100) {
		torn = append(torn, start(0, 100)[:k])
	}
	for _, bytes := range torn {
		what := fmt.Sprintf("%.40q", bytes)
		d := disk(t, map[string]string{"p000000": bytes, "pmark": marked(3)})
		l := opened(t, d, 100)
		has(t, what, l, nil, 0)
		holds(t, what, d, map[string]string{"pmark": marked(3)})
		have := filesOf(100, [][]string{{"a", "b"}, {"c"}, nil})
		have["p000002"] = bytes
		d = disk(t, have)
		l = opened(t, d, 100)
		has(t, what, l, [][]string{{"a", "b"}, {"c"}}, 3)
		holds(t, what, d, filesOf(100, [][]string{{"a", "b"}, {"c"}}))
	}
}

func TestOpenCutsOffWhatStandsBehindRecords(t *testing.T) {
	good := start(1, 100) + records("c", "d")
	spoilt := records("e")
	spoilt = spoilt[:len(spoilt)-1] + "x"
	for _, more := range []string{"x", long(5000), framed(""), framed("\x02"), framed("\x03a"), start(1, 100), start(2, 100), spoilt, spoilt + records("f"), finish(1, 3), finish(1, 1), finish(2, 2), finish(1, 2), finish(1, 2) + "x", finish(1, 2) + records("e"), "x" + finish(1, 2), "x" + records("e")} {
		d := disk(t, map[string]string{"p000000": doneChunk(0, "a", "b"), "p000001": good + more})
		l := opened(t, d, 100)
		what := fmt.Sprintf("behind %.40q", more)
		chunks := [][]string{{"a", "b"}, {"c", "d"}}
		has(t, what, l, chunks, 4)
		holds(t, what, d, filesOf(100, chunks))
		appends(t, l, same('g', 59)) // just as long as there is room for
		chunks[1] = append(chunks[1], same('g', 59))
		has(t, what+", gone on with", l, chunks, 4)
		holds(t, what+", gone on with", d, filesOf(100, chunks))
	}
}

// TestOpenOfAChunkThatIsDone: the last one goes on, also where all that was behind it was lost.
func TestOpenOfAChunkThatIsDone(t *testing.T) {
	d := disk(t, map[string]string{"p000000": doneChunk(0, "a", "b"), "p000001": start(1, 100)[:20]})
	l := opened(t, d, 100)
	holds(t, "opened", d, map[string]string{"p000000": start(0, 100) + records("a", "b")})
	equal(t, "Rewrite of the last one", l.Rewrite(0, "x", "y"), api.ErrRange)
	appends(t, l, "c", same('d', 50))
	has(t, "gone on with", l, [][]string{{"a", "b", "c"}, {same('d', 50)}}, 3)
	d = disk(t, map[string]string{"p000000": doneChunk(0)})
	l = opened(t, d, 100)
	has(t, "one without records", l, [][]string{nil}, 0)
	appends(t, l, "a")
	has(t, "one without records, gone on with", l, [][]string{{"a"}}, 0)
	holds(t, "one without records, gone on with", d, map[string]string{"p000000": start(0, 100) + records("a")})
}

// noLogs are files that are no log.
func noLogs() map[string]map[string]string {
	zero, one, two := doneChunk(0, "a"), doneChunk(1, "b"), start(2, 100)+records("c")
	m := map[string]map[string]string{
		"the first one missing":                   {"p000001": one, "p000002": two},
		"all but the last one missing":            {"p000002": two},
		"all but the last one missing, torn":      {"p000002": "x"},
		"all but the greatest missing":            {"p999999": start(999_999, 100)},
		"one missing":                             {"p000000": zero, "p000002": two},
		"one missing ahead of a torn one":         {"p000000": zero, "p000002": "x"},
		"two missing":                             {"p000000": zero, "p000003": start(3, 100)},
		"the first one not done":                  {"p000000": start(0, 100) + records("a"), "p000001": one, "p000002": two},
		"one not done":                            {"p000000": zero, "p000001": start(1, 100) + records("b"), "p000002": two},
		"one not done ahead of a torn one":        {"p000000": start(0, 100) + records("a"), "p000001": "x"},
		"one not done ahead of one without bytes": {"p000000": start(0, 100) + records("a"), "p000001": ""},
		"one done wrongly":                        {"p000000": start(0, 100) + records("a") + finish(0, 2), "p000001": one},
		"one done as another one":                 {"p000000": start(0, 100) + records("a") + finish(1, 1), "p000001": one},
		"one spoilt":                              {"p000000": zero[:40] + "x" + zero[41:], "p000001": one},
		"one without bytes":                       {"p000000": "", "p000001": one},
		"one without a start":                     {"p000000": records("a") + finish(0, 1), "p000001": one},
		"the first one of another number":         {"p000000": one, "p000001": one},
		"one of another number":                   {"p000000": zero, "p000001": zero, "p000002": two},
		"two turned round":                        {"p000000": one, "p000001": zero, "p000002": two},
		"the last one of another number":          {"p000000": zero, "p000001": two},
		"the only one of another number":          {"p000000": start(7, 100) + records("a")},
	}
	return m
}

func TestOpenOfNoLog(t *testing.T) {
	for what, have := range noLogs() {
		have["pnew"], have["pmark"] = "left", marked(1)+"torn"
		d := disk(t, have)
		refused(t, what, d, "p", 100, api.ErrForm)
		holds(t, what+": nothing has changed", d, have)
	}
}

// TestOpenReadsNothingBehindAnEnd: nothing behind it counts.
func TestOpenReadsNothingBehindAnEnd(t *testing.T) {
	d := disk(t, map[string]string{"p000000": doneChunk(0, "a") + "more" + records("x"), "p000001": start(1, 100) + records("b")})
	has(t, "opened", opened(t, d, 100), [][]string{{"a"}, {"b"}}, 2)
}

func TestOpenLeavesOtherFilesAlone(t *testing.T) {
	others := map[string]string{}
	for _, name := range []string{"p", "p0", "p00000", "p0000000", "p00000x", "p-00001", "p+00001", "p 00001", "p00000\x00", "p٠٠٠", "p0x0000", "P000000", "q000000", "000000", "xp000000", "pp000000", "p1000000", "pnew1", "pmark1", "new", "mark", "pne", "pmar", "pNEW"} {
		others[name] = "other " + name
	}
	d := disk(t, others)
	l := opened(t, d, 100)
	has(t, "a new log", l, nil, 0)
	holds(t, "opened", d, others)
	appends(t, l, some()...)
	equal(t, "Mark", l.Mark(2), api.OK)
	l = opened(t, d, 100)
	has(t, "opened anew", l, spreadSome(), 6)
	equal(t, "Truncate", l.Truncate(0), api.OK)
	others["pmark"] = marked(2)
	holds(t, "cut", d, others)
}

// TestLogsBesideEachOther: the one's prefix begins the other one's.
func TestLogsBesideEachOther(t *testing.T) {
	d := simdisk.New(0)
	prefixes := []string{"p", "p0", "p00", "p000000", "pmark", "pnew"}
	for _, prefix := range prefixes {
		l, e := Open(d, prefix, 100)
		equal(t, "Open", e, api.OK)
		appends(t, l, prefix, same('x', 80), prefix)
		equal(t, "Mark", l.Mark(len(prefix)%3), api.OK)
	}
	for _, prefix := range prefixes {
		l, e := Open(d, prefix, 100)
		equal(t, "Open anew", e, api.OK)
		has(t, prefix, l, [][]string{{prefix}, {same('x', 80)}, {prefix}}, 3)
		equal(t, "Marked", l.Marked(), len(prefix)%3)
	}
}

func TestOpenRemovesNew(t *testing.T) {
	for _, left := range []string{"", "x", doneChunk(0, "x", "y"), start(0, 100)} {
		have := filesOf(100, spreadSome())
		have["pnew"] = left
		d := disk(t, have)
		has(t, "opened", opened(t, d, 100), spreadSome(), 6)
		holds(t, "opened", d, filesOf(100, spreadSome()))
		d = disk(t, map[string]string{"pnew": left})
		has(t, "a new log", opened(t, d, 100), nil, 0)
		holds(t, "a new log", d, nil)
	}
}

func TestOpenSyncs(t *testing.T) {
	for n := 1; n <= len(some()); n++ {
		want := spread(100, some()[:n])
		d := simdisk.New(0)
		for name, bytes := range filesOf(100, want) {
			equal(t, "Append", d.Append(name, bytes), api.OK)
		}
		l := opened(t, d, 100)
		has(t, "opened", l, want, n)
		d.Crash()
		d.Restore()
		has(t, "opened anew", opened(t, d, 100), want, n)
	}
}

func TestOpenCutsTheChasersFile(t *testing.T) {
	whole := marked(2) + marked(0) + marked(3)
	wants := []int{0, 2, 0, 3}
	for k := range len(whole) + 1 {
		have := filesOf(100, spreadSome())
		have["pmark"] = whole[:k]
		d := disk(t, have)
		l := opened(t, d, 100)
		equal(t, fmt.Sprint("Marked of first bytes ", k), l.Marked(), wants[k/20])
		equal(t, "what is left", bytesOf(d, "pmark"), whole[:k/20*20])
		equal(t, "Mark", l.Mark(5), api.OK)
		equal(t, "Marked", opened(t, d, 100).Marked(), 5)
	}
	for _, none := range []string{"x", long(5000), framed(""), framed(numbers(1)[1:]), framed(numbers(1) + "x"), framed(numbers(-1)), framed(numbers(math.MinInt)), marked(1)[:19] + "x", "x" + marked(1)} {
		for _, ahead := range []string{"", marked(4), marked(1) + marked(4)} {
			have := filesOf(100, spreadSome())
			have["pmark"] = ahead + none + marked(2)
			d := disk(t, have)
			l := opened(t, d, 100)
			what := fmt.Sprintf("%.40q behind %d bytes", none, len(ahead))
			equal(t, what+": Marked", l.Marked(), min(len(ahead), 4))
			equal(t, what, bytesOf(d, "pmark"), ahead)
		}
	}
}

// TestOpenWhereThePowerGoes lets it go at each step of an Open that has all to mend.
func TestOpenWhereThePowerGoes(t *testing.T) {
	have := filesOf(100, spreadSome()[:3])
	have["p000002"] += finish(2, 2)
	have["p000003"], have["pnew"], have["pmark"] = start(3, 100)[:9], "left", marked(4)+"torn"
	want := filesOf(100, spreadSome()[:3])
	want["pmark"] = marked(4)
	steps := 0
	for n := range 20 {
		d := disk(t, have)
		d.Arm(n)
		l, e := Open(d, "p", 100)
		if e == api.OK {
			steps = n
			break
		}
		equal(t, "error", e, api.ErrOff)
		if l != nil {
			t.Error("a log beside the error")
		}
		d.Restore()
		l = opened(t, d, 100)
		has(t, fmt.Sprint("opened anew behind steps ", n), l, spreadSome()[:3], 5)
		equal(t, "Marked", l.Marked(), 4)
		holds(t, "opened anew", d, want)
	}
	equal(t, "pnew, p000003, p000002 cut, synced, pmark", steps, 5)
}

// TestOpenWithAnotherSize: it counts from then on, also in the chunk that was last.
func TestOpenWithAnotherSize(t *testing.T) {
	d := disk(t, filesOf(100, [][]string{{"a", "b"}}))
	l := opened(t, d, 200)
	_, e := l.Append(same('c', 188))
	equal(t, "too long", e, api.ErrLong)
	appends(t, l, same('c', 159)) // just as long as there is room for
	has(t, "greater", l, [][]string{{"a", "b", same('c', 159)}}, 2)
	appends(t, l, same('d', 187), "e")
	chunks := [][]string{{"a", "b", same('c', 159)}, {same('d', 187)}, {"e"}}
	has(t, "greater", l, chunks, 4)
	want := filesOf(200, chunks)
	want["p000000"] = doneChunk(0, chunks[0]...)
	holds(t, "what stood there keeps its start", d, want)
	chunks[0] = []string{"", "x", same('c', 100)}
	equal(t, "Rewrite", l.Rewrite(0, chunks[0]...), api.OK)
	want["p000000"] = doneChunk(0, chunks[0]...)
	holds(t, "a Rewrite keeps it", d, want)
	l = opened(t, d, 100)
	_, e = l.Append(same('f', 88))
	equal(t, "too long", e, api.ErrLong)
	appends(t, l, same('f', 74))
	chunks = append(chunks, []string{same('f', 74)})
	has(t, "less", l, chunks, 5)
	equal(t, "Truncate", l.Truncate(4), api.OK)
	appends(t, l, "")
	has(t, "less, in a chunk that is greater", l, [][]string{chunks[0], {same('d', 187), ""}}, 4)
}

// P1102

func TestAppendOfTheExample(t *testing.T) {
	l := opened(t, simdisk.New(0), 100)
	n, e := l.Append("a", "b")
	equal(t, "Append", n, 0)
	equal(t, "Append: error", e, api.OK)
	s, e := l.Get(1)
	equal(t, "Get", s, "b")
	equal(t, "Get: error", e, api.OK)
	alike(t, "Back", l.Back(5, 9), []string{"b", "a"})
}

func TestAppendTellsTheFirstNumber(t *testing.T) {
	d := simdisk.New(0)
	l := opened(t, d, 100)
	want := 0
	for _, bodies := range [][]string{nil, {"a"}, nil, {"b", "c", "d"}, {same('e', 87), same('f', 87)}, {""}, nil} {
		n, e := l.Append(bodies...)
		equal(t, "Append", n, want)
		equal(t, "Append: error", e, api.OK)
		want += len(bodies)
		equal(t, "Len", l.Len(), want)
	}
	was := files(d)
	n, e := l.Append()
	equal(t, "of none", n, want)
	equal(t, "of none: error", e, api.OK)
	holds(t, "of none", d, was)
}

func TestAppendOfTooLong(t *testing.T) {
	for size, most := range map[int]int{100: 87, 101: 88, 4000: 3987, 4011: 3998, 4012: 3999, 4013: 3999, 20_000: 3999, 1_000_000: 3999} {
		d := simdisk.New(0)
		l := opened(t, d, size)
		appends(t, l, "a", long(most))
		equal(t, "Sync", l.Sync(), api.OK)
		was := files(d)
		for _, n := range []int{most + 1, most + 2, 4000, 4001, 100_000} {
			for _, bodies := range [][]string{{long(n)}, {"b", long(n)}, {long(n), "b"}, {"b", "c", long(n), "d"}} {
				n, e := l.Append(bodies...)
				equal(t, "Append", n, 0)
				equal(t, "Append: error", e, api.ErrLong)
				equal(t, "Len", l.Len(), 2)
				equal(t, "Broken", l.Broken(), false)
			}
		}
		holds(t, fmt.Sprint("behind what is too long for ", size), d, was)
	}
}

// lists are bodies for chunks of the sizes 100 and more.
func lists() [][]string {
	var l [][]string
	for seed := range 12 {
		var bodies []string
		for k := range 30 {
			bodies = append(bodies, long((k*k*(seed+1)+k*7+seed*29)%88))
		}
		l = append(l, bodies)
	}
	return append(l, make([]string, 40), []string{same('a', 87), same('b', 87)}, []string{same('a', 87), "", "", "b", ""}, []string{same('a', 86), "", "b"})
}

func TestAppendSpreadsOverChunks(t *testing.T) {
	for k, bodies := range lists() {
		for _, size := range []int{100, 101, 113, 150, 250, 1000} {
			together, apart := simdisk.New(0), simdisk.New(0)
			appends(t, opened(t, together, size), bodies...)
			l := opened(t, apart, size)
			for n, body := range bodies {
				appends(t, l, body)
				chunks := spread(size, bodies[:n+1])
				what := fmt.Sprint("list ", k, " of size ", size, " behind ", n)
				has(t, what, l, chunks, n+1-len(chunks[len(chunks)-1]))
				for c := range chunks {
					wait := apart.Unsynced(chunkFile("p", c))
					if c < len(chunks)-1 {
						equal(t, what+": unsynced of a chunk that is done", wait, 0)
					}
				}
			}
			holds(t, "one by one", apart, filesOf(size, spread(size, bodies)))
			holds(t, "together", together, filesOf(size, spread(size, bodies)))
		}
	}
}

// TestAppendOfEmptyBodies: one always goes into the last chunk, however many bytes that has.
func TestAppendOfEmptyBodies(t *testing.T) {
	l := opened(t, simdisk.New(0), 100)
	appends(t, l, same('a', 87))
	appends(t, l, make([]string, 50)...)
	alike(t, "Chunks", l.Chunks(), []int{51})
	appends(t, l, "b", "")
	alike(t, "Chunks", l.Chunks(), []int{51, 2})
}

// TestAppendWithoutRoom gives a disk each room there may be too little of.
func TestAppendWithoutRoom(t *testing.T) {
	for _, bodies := range [][]string{some(), {"a", same('b', 80), "c"}, {same('a', 87), "", same('b', 87)}} {
		for ahead := range bodies {
			whole := 0
			for _, bytes := range filesOf(100, spread(100, bodies)) {
				whole += len(bytes)
			}
			for room := 1; room < whole; room++ {
				d := simdisk.New(room)
				l := opened(t, d, 100)
				if _, e := l.Append(bodies[:ahead]...); e != api.OK {
					continue
				}
				full(t, fmt.Sprint(len(bodies), " bodies, room ", room, ", behind ", ahead), d, l, bodies)
			}
			d := simdisk.New(whole)
			appends(t, opened(t, d, 100), bodies...)
			holds(t, "just room for all", d, filesOf(100, spread(100, bodies)))
		}
	}
}

// full appends what lacks of bodies, for which there is no room.
func full(t *testing.T, what string, d *simdisk.Disk, l *Log, bodies []string) {
	t.Helper()
	n, e := l.Append(bodies[l.Len():]...)
	equal(t, what+": Append", n, 0)
	equal(t, what+": error", e, api.ErrFull)
	equal(t, what+": Broken", l.Broken(), false)
	if l.Len() >= len(bodies) {
		t.Fatal(what, ": all went in")
	}
	chunks := spread(100, bodies[:l.Len()])
	synced := 0
	if len(chunks) > 0 {
		synced = l.Len() - len(chunks[len(chunks)-1])
	}
	has(t, what, l, chunks, synced)
	holds(t, what, d, filesOf(100, chunks))
	d.Room(0)
	appends(t, l, bodies[l.Len():]...)
	chunks = spread(100, bodies)
	has(t, what+", with room", l, chunks, len(bodies)-len(chunks[len(chunks)-1]))
	holds(t, what+", with room", d, filesOf(100, chunks))
}

// TestAShorterBodyBehindErrFull: the chunk that there is no next one for is the last one still.
func TestAShorterBodyBehindErrFull(t *testing.T) {
	d := simdisk.New(0)
	l := opened(t, d, 100)
	appends(t, l, same('a', 60))
	d.Room(d.Used() + 50)
	_, e := l.Append(same('b', 60))
	equal(t, "error", e, api.ErrFull)
	equal(t, "Synced", l.Synced(), 0)
	appends(t, l, same('c', 14))
	has(t, "behind it", l, [][]string{{same('a', 60), same('c', 14)}}, 0)
	equal(t, "Rewrite", l.Rewrite(0, "x", "y"), api.ErrRange)
	holds(t, "behind it", d, filesOf(100, [][]string{{same('a', 60), same('c', 14)}}))
}

// TestThePowerGoesBehindErrFull: just when the end of the chunk that stays the last one is to be taken back.
func TestThePowerGoesBehindErrFull(t *testing.T) {
	d := simdisk.New(0)
	l := opened(t, d, 100)
	appends(t, l, same('a', 60))
	d.Room(d.Used() + 50)
	d.Arm(2)
	n, e := l.Append(same('b', 60))
	equal(t, "Append", n, 0)
	equal(t, "error", e, api.ErrOff)
	broken(t, "no power", d, l, api.ErrOff)
	d.Restore()
	l = opened(t, d, 100)
	has(t, "opened anew", l, [][]string{{same('a', 60)}}, 1)
	appends(t, l, "c")
	has(t, "gone on with", l, [][]string{{same('a', 60), "c"}}, 1)
}

func TestAppendWithoutRoomForFiles(t *testing.T) {
	d := simdisk.New(0)
	for k := range api.MaxFiles - 2 {
		d.Append(fmt.Sprint("other", k), "x")
	}
	l := opened(t, d, 100)
	appends(t, l, same('a', 80), same('b', 60))
	n, e := l.Append("", "c", same('d', 70), "e")
	equal(t, "Append", n, 0)
	equal(t, "error", e, api.ErrFull)
	chunks := [][]string{{same('a', 80)}, {same('b', 60), "", "c"}}
	has(t, "those ahead of it", l, chunks, 1)
	equal(t, "Mark", l.Mark(1), api.ErrFull)
	equal(t, "Marked", l.Marked(), 0)
	equal(t, "Rewrite", l.Rewrite(0, "x"), api.ErrFull)
	equal(t, "Broken", l.Broken(), false)
	d.Remove("other0")
	appends(t, l, same('d', 70), "e")
	has(t, "with a file more", l, append(chunks, []string{same('d', 70), "e"}), 4)
}

// errnos are all calls that answer an Errno, with what may be of a log of some.
func errnos() map[string]func(l *Log) api.Errno {
	return map[string]func(l *Log) api.Errno{
		"Append": func(l *Log) api.Errno {
			n, e := l.Append("x")
			if e != api.OK && n != 0 {
				return -1
			}
			return e
		},
		"Append of none": func(l *Log) api.Errno {
			n, e := l.Append()
			if e != api.OK && n != 0 {
				return -1
			}
			return e
		},
		"Append of too long": func(l *Log) api.Errno {
			_, e := l.Append(long(5000))
			return e
		},
		"Sync": func(l *Log) api.Errno { return l.Sync() },
		"Get": func(l *Log) api.Errno {
			s, e := l.Get(0)
			if e != api.OK && s != "" {
				return -1
			}
			return e
		},
		"Get of none": func(l *Log) api.Errno {
			_, e := l.Get(-1)
			return e
		},
		"Truncate":         func(l *Log) api.Errno { return l.Truncate(1) },
		"Truncate of none": func(l *Log) api.Errno { return l.Truncate(-1) },
		"Rewrite":          func(l *Log) api.Errno { return l.Rewrite(0, "", "") },
		"Rewrite of none":  func(l *Log) api.Errno { return l.Rewrite(-1) },
		"Mark":             func(l *Log) api.Errno { return l.Mark(1) },
		"Mark of none":     func(l *Log) api.Errno { return l.Mark(-1) },
	}
}

// broken holds that a log tells that error, and nothing is done any more.
func broken(t *testing.T, what string, d *simdisk.Disk, l *Log, want api.Errno) {
	t.Helper()
	equal(t, what+": Broken", l.Broken(), true)
	was := files(d)
	size, synced, marked := l.Len(), l.Synced(), l.Marked()
	for name, call := range errnos() {
		equal(t, what+": "+name, call(l), want)
	}
	holds(t, what+": nothing is done any more", d, was)
	equal(t, what+": Len", l.Len(), size)
	equal(t, what+": how many Range tells", len(l.Range(0, 99)), size)
	equal(t, what+": Synced", l.Synced(), synced)
	equal(t, what+": Marked", l.Marked(), marked)
	equal(t, what+": Broken still", l.Broken(), true)
}

// writes are all calls that write.
func writes() map[string]func(l *Log) api.Errno {
	return map[string]func(l *Log) api.Errno{
		"Append": func(l *Log) api.Errno {
			n, e := l.Append("x", same('y', 80), same('z', 80))
			if e != api.OK && n != 0 {
				return -1
			}
			return e
		},
		"Sync":     func(l *Log) api.Errno { return l.Sync() },
		"Truncate": func(l *Log) api.Errno { return l.Truncate(1) },
		"Rewrite":  func(l *Log) api.Errno { return l.Rewrite(0, "", "x") },
		"Mark":     func(l *Log) api.Errno { return l.Mark(1) },
	}
}

// TestBroken lets the power go at each step of each call that writes.
func TestBroken(t *testing.T) {
	steps := map[string]int{"Append": 7, "Sync": 1, "Truncate": 4, "Rewrite": 3, "Mark": 2}
	for name, call := range writes() {
		for n := range steps[name] + 1 {
			what := fmt.Sprint(name, " behind steps ", n)
			d := simdisk.New(0)
			l := opened(t, d, 100)
			appends(t, l, some()...)
			d.Arm(n)
			e := call(l)
			d.Arm(-1)
			if n == steps[name] {
				equal(t, what, e, api.OK)
				equal(t, what+": Broken", l.Broken(), false)
				continue
			}
			equal(t, what, e, api.ErrOff)
			broken(t, what, d, l, api.ErrOff)
			d.Restore()
			broken(t, what+", power again", d, l, api.ErrOff)
			equal(t, "opened anew: Broken", opened(t, d, 100).Broken(), false)
		}
	}
}

// TestBrokenByAFileThatIsGone: any error of the disk but ErrFull.
func TestBrokenByAFileThatIsGone(t *testing.T) {
	for _, name := range []string{"Sync", "Truncate"} {
		d := simdisk.New(0)
		l := opened(t, d, 100)
		appends(t, l, some()...)
		equal(t, "Remove", d.Remove("p000003"), api.OK)
		equal(t, name, writes()[name](l), api.ErrNone)
		broken(t, name, d, l, api.ErrNone)
	}
}

func TestSynced(t *testing.T) {
	d := simdisk.New(0)
	l := opened(t, d, 100)
	sync := func(want int) {
		t.Helper()
		equal(t, "Synced ahead", l.Synced() <= want, true)
		equal(t, "Sync", l.Sync(), api.OK)
		equal(t, "Synced", l.Synced(), want)
		for _, name := range d.List("") {
			equal(t, "unsynced of "+name, d.Unsynced(name), 0)
		}
	}
	sync(0)
	appends(t, l, "a", "b")
	equal(t, "Synced of none that was", l.Synced(), 0)
	sync(2)
	appends(t, l, "c")
	equal(t, "Synced of those ahead", l.Synced(), 2)
	appends(t, l, same('d', 60))
	equal(t, "Synced of a chunk that is done", l.Synced(), 3)
	sync(4)
	sync(4)
	appends(t, l, "e", "f", "g", same('h', 87), same('i', 87), "")
	equal(t, "Synced of chunks that are done", l.Synced(), 8)
	equal(t, "Truncate", l.Truncate(9), api.OK)
	equal(t, "Synced behind Truncate", l.Synced(), 8)
	equal(t, "Truncate", l.Truncate(5), api.OK)
	equal(t, "Synced behind Truncate", l.Synced(), 5)
	appends(t, l, "e")
	equal(t, "Synced behind Append", l.Synced(), 5)
	equal(t, "Synced at Open", opened(t, d, 100).Synced(), 6)
}

// TestSyncKeeps: what was synced is there when the power was gone.
func TestSyncKeeps(t *testing.T) {
	for n := range len(some()) + 1 {
		d := simdisk.New(0)
		l := opened(t, d, 100)
		appends(t, l, some()[:n]...)
		equal(t, "Sync", l.Sync(), api.OK)
		appends(t, l, some()[n:]...)
		least := l.Synced()
		d.Crash()
		d.Restore()
		has(t, fmt.Sprint("synced ", n), opened(t, d, 100), spread(100, some()[:least]), least)
	}
}

// P1103

func ints() []int {
	return []int{math.MinInt, math.MinInt + 1, -100, -7, -6, -5, -1, 0, 1, 2, 3, 4, 5, 6, 7, 8, 100, math.MaxInt - 6, math.MaxInt - 1, math.MaxInt}
}

func TestGetRangeBack(t *testing.T) {
	for n := range len(some()) + 1 {
		l := opened(t, simdisk.New(0), 100)
		want := some()[:n]
		appends(t, l, want...)
		for _, from := range ints() {
			s, e := l.Get(from)
			if from < 0 || from >= n {
				equal(t, fmt.Sprint("Get ", from), s, "")
				equal(t, fmt.Sprint("Get ", from), e, api.ErrRange)
			} else {
				equal(t, fmt.Sprint("Get ", from), s, want[from])
				equal(t, fmt.Sprint("Get ", from), e, api.OK)
			}
			for _, most := range ints() {
				var on, back []string
				for k := from; from >= 0 && k < n && len(on) < most; k++ {
					on = append(on, want[k])
				}
				for k := min(from, n-1); k >= 0 && len(back) < most; k-- {
					back = append(back, want[k])
				}
				alike(t, fmt.Sprint("Range ", from, most, " of ", n), l.Range(from, most), on)
				alike(t, fmt.Sprint("Back ", from, most, " of ", n), l.Back(from, most), back)
			}
		}
	}
}

func TestAnswersAreNewMemory(t *testing.T) {
	bodies := []string{long(50), long(60)}
	l := opened(t, simdisk.New(0), 100)
	appends(t, l, bodies...)
	one, two := l.Range(0, 9), l.Range(0, 9)
	back := l.Back(9, 9)
	get, _ := l.Get(0)
	all := slices.Concat(one, two, back, []string{get}, bodies)
	for k, s := range all {
		for other, in := range all {
			equal(t, "shares memory", k != other && lies(s, in), false)
		}
	}
	one[0], back[0] = "turned", "turned"
	counts := l.Chunks()
	counts[0] = 9
	bodies[1] = "turned"
	has(t, "behind what was turned", l, [][]string{{long(50)}, {long(60)}}, 1)
}

// TestNothingHandedInIsKept looks at what a log keeps.
func TestNothingHandedInIsKept(t *testing.T) {
	prefix, bodies, anew := long(10), []string{long(300), long(800), long(800)}, []string{long(200)}
	l, e := Open(simdisk.New(0), prefix, 1000)
	equal(t, "Open", e, api.OK)
	appends(t, l, bodies...)
	equal(t, "Rewrite", l.Rewrite(1, long(500)), api.OK)
	equal(t, "Truncate", l.Truncate(2), api.OK)
	equal(t, "how many bodies", len(l.list.pool.bodies), 2)
	appends(t, l, long(900))
	equal(t, "Rewrite", l.Rewrite(1, anew...), api.OK)
	for _, kept := range append(l.list.pool.bodies, l.prefix) {
		for _, given := range slices.Concat(bodies, anew, []string{prefix}) {
			equal(t, "shares memory", lies(kept, given), false)
		}
	}
}

func TestChunks(t *testing.T) {
	l := opened(t, simdisk.New(0), 100)
	equal(t, "of none", len(l.Chunks()), 0)
	appends(t, l, "a")
	alike(t, "of one", l.Chunks(), []int{1})
	appends(t, l, some()...)
	alike(t, "of more", l.Chunks(), []int{3, 1, 2, 1})
}

// P1104

func TestTruncate(t *testing.T) {
	for k, bodies := range lists() {
		for n := range len(bodies) + 1 {
			d := simdisk.New(0)
			l := opened(t, d, 100)
			appends(t, l, bodies...)
			synced := min(l.Synced(), n)
			what := fmt.Sprint("list ", k, " cut to ", n)
			equal(t, what, l.Truncate(n), api.OK)
			has(t, what, l, spread(100, bodies[:n]), synced)
			holds(t, what, d, filesOf(100, spread(100, bodies[:n])))
			appends(t, l, bodies[n:]...)
			alike(t, what+", gone on with", l.Chunks(), counts(spread(100, bodies)))
			holds(t, what+", gone on with", d, filesOf(100, spread(100, bodies)))
			has(t, what+", opened anew", opened(t, d, 100), spread(100, bodies), len(bodies))
		}
	}
}

func TestTruncateOfWhatIsNotThere(t *testing.T) {
	for n := range len(some()) + 1 {
		d := simdisk.New(0)
		l := opened(t, d, 100)
		appends(t, l, some()[:n]...)
		was := files(d)
		for _, to := range ints() {
			if to < 0 || to > n {
				equal(t, fmt.Sprint("Truncate ", to, " of ", n), l.Truncate(to), api.ErrRange)
			}
		}
		holds(t, "behind them", d, was)
		equal(t, "Broken", l.Broken(), false)
		equal(t, "Len", l.Len(), n)
	}
}

// TestTruncateRemovesAnEmptyChunk: the chunk in question is that of the last record that is left.
func TestTruncateRemovesAnEmptyChunk(t *testing.T) {
	have := map[string]string{"p000000": doneChunk(0, "a", "b"), "p000001": start(1, 100)}
	d := disk(t, have)
	l := opened(t, d, 100)
	has(t, "opened", l, [][]string{{"a", "b"}, nil}, 2)
	equal(t, "Truncate", l.Truncate(2), api.OK)
	has(t, "cut", l, [][]string{{"a", "b"}}, 2)
	holds(t, "cut", d, filesOf(100, [][]string{{"a", "b"}}))
	d = disk(t, map[string]string{"p000000": start(0, 100)})
	l = opened(t, d, 100)
	has(t, "opened", l, [][]string{nil}, 0)
	equal(t, "Truncate", l.Truncate(0), api.OK)
	has(t, "cut", l, nil, 0)
	holds(t, "cut", d, nil)
}

// TestTruncateFromTheLastOneOn: wherever the power goes, what is left is a log.
func TestTruncateFromTheLastOneOn(t *testing.T) {
	for n := range len(some()) + 1 {
		for step := range 6 {
			d := simdisk.New(0)
			l := opened(t, d, 100)
			appends(t, l, some()...)
			equal(t, "Sync", l.Sync(), api.OK)
			d.Arm(step)
			e := l.Truncate(n)
			d.Arm(-1)
			d.Restore()
			left := opened(t, d, 100)
			if e == api.OK {
				has(t, "cut", left, spread(100, some()[:n]), n)
				break
			}
			gone := spreadSome()[:max(0, 4-step)]
			has(t, fmt.Sprint("to ", n, " behind steps ", step), left, gone, len(slices.Concat(gone...)))
			equal(t, "Len of what is broken", l.Len(), left.Len())
		}
	}
}

func TestRewrite(t *testing.T) {
	for number := range 3 {
		bodies := spreadSome()[number]
		for _, shorter := range []int{0, 1, 13} {
			var anew []string
			for _, body := range bodies {
				anew = append(anew, same('z', max(0, len(body)-shorter)))
			}
			d := simdisk.New(0)
			l := opened(t, d, 100)
			appends(t, l, some()...)
			equal(t, "Mark", l.Mark(3), api.OK)
			equal(t, "Rewrite", l.Rewrite(number, anew...), api.OK)
			chunks := spreadSome()
			chunks[number] = anew
			has(t, "rewritten", l, chunks, 5)
			want := filesOf(100, chunks)
			want["pmark"] = marked(3)
			holds(t, "rewritten", d, want)
			equal(t, "unsynced", d.Unsynced(chunkFile("p", number)), 0)
			has(t, "opened anew", opened(t, d.Twin(), 100), chunks, 6)
			d.Crash()
			d.Restore()
			has(t, "behind a crash", opened(t, d, 100), chunks[:3], 5)
		}
	}
}

func TestRewriteOfWhatCantBe(t *testing.T) {
	d := simdisk.New(0)
	l := opened(t, d, 100)
	appends(t, l, some()...)
	equal(t, "Sync", l.Sync(), api.OK)
	d.Append("pnew", "left")
	was := files(d)
	for _, number := range []int{math.MinInt, -2, -1, 3, 4, 5, 100, math.MaxInt} {
		for _, bodies := range [][]string{nil, {"x"}, {"x", "y"}, {long(5000)}} {
			equal(t, fmt.Sprint("Rewrite of ", number), l.Rewrite(number, bodies...), api.ErrRange)
		}
	}
	wrong := [][]string{nil, {"x"}, {"x", "y", "z"}, {"xx", "y"}, {"x", "yy"}, {"", "yy"}, {"xx", ""}, {"x", long(5000)}}
	for _, bodies := range wrong {
		equal(t, fmt.Sprintf("Rewrite as %.40q", bodies), l.Rewrite(0, bodies...), api.ErrArg)
	}
	equal(t, "Rewrite of one longer", l.Rewrite(1, same('x', 61)), api.ErrArg)
	equal(t, "Rewrite of one longer", l.Rewrite(2, same('x', 61), same('y', 14)), api.ErrArg)
	holds(t, "behind them", d, was)
	has(t, "behind them", l, spreadSome(), 6)
	equal(t, "Rewrite of no log's chunk", opened(t, simdisk.New(0), 100).Rewrite(0), api.ErrRange)
	one := opened(t, disk(t, map[string]string{"p000000": doneChunk(0), "p000001": start(1, 100)}), 100)
	equal(t, "Rewrite of one without records", one.Rewrite(0), api.OK)
	equal(t, "Rewrite of one without records", one.Rewrite(0, ""), api.ErrArg)
}

// TestRewriteShrinks: what was made shorter can't be made longer again; and there is more room in it, if it is the last one.
func TestRewriteShrinks(t *testing.T) {
	d := simdisk.New(0)
	l := opened(t, d, 100)
	appends(t, l, same('a', 30), same('b', 40), same('c', 80), "d")
	equal(t, "Rewrite", l.Rewrite(0, same('x', 10), ""), api.OK)
	equal(t, "Rewrite", l.Rewrite(0, same('x', 11), ""), api.ErrArg)
	equal(t, "Rewrite", l.Rewrite(0, same('x', 10), "y"), api.ErrArg)
	equal(t, "Rewrite", l.Rewrite(0, same('y', 10), ""), api.OK)
	equal(t, "Truncate", l.Truncate(2), api.OK)
	holds(t, "cut", d, filesOf(100, [][]string{{same('y', 10), ""}}))
	appends(t, l, same('e', 51), "")
	chunks := [][]string{{same('y', 10), "", same('e', 51), ""}}
	has(t, "gone on with", l, chunks, 2)
	holds(t, "gone on with", d, filesOf(100, chunks))
	equal(t, "Truncate", l.Truncate(1), api.OK)
	appends(t, l, same('f', 64), "g")
	has(t, "gone on with", l, [][]string{{same('y', 10), same('f', 64)}, {"g"}}, 2)
}

// TestRewriteWithoutRoom: nothing has changed, and nothing is left.
func TestRewriteWithoutRoom(t *testing.T) {
	made := func() (*simdisk.Disk, *Log) {
		d := simdisk.New(0)
		l := opened(t, d, 100)
		appends(t, l, some()...)
		return d, l
	}
	need := len(doneChunk(0, "x", ""))
	for room := range need + 1 {
		d, l := made()
		d.Append("pnew", long(20))
		d.Room(d.Used() - 20 + room)
		e := l.Rewrite(0, "x", "")
		chunks := spreadSome()
		if room < need {
			equal(t, "Rewrite", e, api.ErrFull)
		} else {
			equal(t, "Rewrite", e, api.OK)
			chunks[0] = []string{"x", ""}
		}
		has(t, fmt.Sprint("room ", room), l, chunks, 5)
		holds(t, fmt.Sprint("room ", room), d, filesOf(100, chunks))
		equal(t, "Broken", l.Broken(), false)
		d.Room(0)
		equal(t, "Rewrite with room", l.Rewrite(0, "", ""), api.OK)
	}
}

func TestRewriteTakesNothingOver(t *testing.T) {
	l := opened(t, simdisk.New(0), 1000)
	appends(t, l, long(600), long(600))
	bodies := []string{long(500)}
	equal(t, "Rewrite", l.Rewrite(0, bodies...), api.OK)
	got, _ := l.Get(0)
	equal(t, "shares memory", lies(got, bodies[0]), false)
	bodies[0] = "turned"
	has(t, "rewritten", l, [][]string{{long(500)}, {long(600)}}, 1)
}

// P1105

func TestMark(t *testing.T) {
	d := simdisk.New(0)
	l := opened(t, d, 100)
	bytes := ""
	marks := func(l *Log, n int) {
		t.Helper()
		equal(t, fmt.Sprint("Mark ", n), l.Mark(n), api.OK)
		bytes += marked(n)
		equal(t, "Marked", l.Marked(), n)
		equal(t, "its file", bytesOf(d, "pmark"), bytes)
		equal(t, "unsynced", d.Unsynced("pmark"), 0)
	}
	marks(l, 0)
	appends(t, l, some()...)
	for _, n := range []int{3, 6, 6, 0, 5, 1} {
		marks(l, n)
		equal(t, "opened anew", opened(t, d.Twin(), 100).Marked(), n)
	}
	for _, n := range ints() {
		if n < 0 || n > 6 {
			equal(t, fmt.Sprint("Mark ", n), l.Mark(n), api.ErrRange)
		}
	}
	equal(t, "Marked", l.Marked(), 1)
	equal(t, "its file", bytesOf(d, "pmark"), bytes)
	d.Crash()
	d.Restore()
	l = opened(t, d, 100)
	equal(t, "behind a crash", l.Marked(), 1)
	marks(l, 4)
}

// TestMarkedIsAtMostLen: the file says what it said, however many records there are.
func TestMarkedIsAtMostLen(t *testing.T) {
	d := simdisk.New(0)
	l := opened(t, d, 100)
	appends(t, l, "a", "b", "c", "d")
	equal(t, "Mark", l.Mark(3), api.OK)
	for _, n := range []int{4, 3, 2, 1, 0} {
		equal(t, "Truncate", l.Truncate(n), api.OK)
		equal(t, "Marked", l.Marked(), min(n, 3))
		equal(t, "opened anew", opened(t, d.Twin(), 100).Marked(), min(n, 3))
	}
	appends(t, l, "e", "f")
	equal(t, "Marked", l.Marked(), 2)
	equal(t, "opened anew", opened(t, d.Twin(), 100).Marked(), 2)
	appends(t, l, "g", "h")
	equal(t, "Marked", l.Marked(), 3)
	d = disk(t, map[string]string{"pmark": marked(math.MaxInt)})
	equal(t, "of a number that is too great", opened(t, d, 100).Marked(), 0)
}

func TestMarkWithoutRoom(t *testing.T) {
	for room := range 20 {
		d := simdisk.New(0)
		l := opened(t, d, 100)
		appends(t, l, "a", "b")
		equal(t, "Mark", l.Mark(1), api.OK)
		was := files(d)
		d.Room(d.Used() + room)
		equal(t, "Mark without room", l.Mark(2), api.ErrFull)
		equal(t, "Marked", l.Marked(), 1)
		equal(t, "Broken", l.Broken(), false)
		holds(t, "behind it", d, was)
		d.Room(d.Used() + 20)
		equal(t, "Mark with room", l.Mark(2), api.OK)
		equal(t, "Marked", l.Marked(), 2)
	}
}
