package journal_test

import (
	"bytes"
	"encoding/binary"
	"hash/crc32"
	"math"
	"runtime"
	"slices"
	"testing"

	"chartroom/api"
	"chartroom/frame"
	"chartroom/journal"
)

// some bytes, each time the same ones, none like its neighbours.
func some(many int) []byte {
	b := make([]byte, many)
	n := uint32(54321)
	for i := range b {
		n = n*1664525 + 1013904223
		b[i] = byte(n >> 24)
	}
	return b
}

func sum(b []byte) uint32 { return crc32.Checksum(b, crc32.MakeTable(crc32.Castagnoli)) }

// framed is a frame by its words, whatever its body's size.
func framed(kind uint8, body []byte) []byte {
	b := append(binary.AppendUvarint([]byte{kind}, uint64(len(body))), body...)
	return binary.LittleEndian.AppendUint32(b, sum(b))
}

// written is a segment by its words.
func written(l ...[]byte) (b []byte) {
	for _, payload := range l {
		b = append(b, framed(9, payload)...)
	}
	return b
}

// payloads of all sorts: of no byte, of sizes on both sides of each more byte of the length, of frames and segments.
func payloads() [][]byte {
	l := [][]byte{nil, []byte("ab"), {}, {0}, {9}, {9, 0}, make([]byte, 40), written([]byte("in")), framed(8, []byte("x")), written(nil, []byte("in"))[:9]}
	for _, many := range []int{126, 127, 128, 129, 255, 256, 16383, 16384, 16385, 65534, 65535} {
		l = append(l, some(many))
	}
	return l
}

func of(payload []byte) journal.Ref {
	return journal.Ref{Size: uint64(len(payload)), Sum: uint64(sum(payload))}
}

// place is where a payload's frame stands, and the place behind it.
type place struct {
	payload  []byte
	at, next int
}

// stands is what a place has by the words: of which kind the frame is, and its body; a kind below 0 tells why there is none.
func stands(b []byte, at int) (kind int, p place) {
	none := func(e api.Errno) (int, place) { return -int(e), place{nil, at, at} }
	if at < 0 || at >= len(b) {
		return none(api.ErrShort)
	}
	size, many := binary.Uvarint(b[at+1:])
	from := at + 1 + many
	switch {
	case many == 0:
		return none(api.ErrShort)
	case many < 0 || many > 1 && b[from-1] == 0:
		return none(api.ErrLong)
	case size > 65535:
		return none(api.ErrLimit)
	case len(b)-from < int(size)+4:
		return none(api.ErrShort)
	}
	end := from + int(size)
	if sum(b[at:end]) != binary.LittleEndian.Uint32(b[end:]) {
		return none(api.ErrSum)
	}
	return int(b[at]), place{b[from:end], at, end + 4}
}

// whole is what is whole of a segment, by the words.
func whole(b []byte) (l []place, end int) {
	for {
		kind, p := stands(b, end)
		if kind != 9 {
			return l, end
		}
		l, end = append(l, p), p.next
	}
}

func checkPut(t *testing.T, l ...[]byte) {
	t.Helper()
	if b, e := journal.Put(l...); !bytes.Equal(b, written(l...)) || e != api.OK {
		t.Errorf("Put of %d: %d bytes, %d; want %d", len(l), len(b), e, len(written(l...)))
	}
}

func checkNext(t *testing.T, b []byte, at int, payload []byte, next int, want api.Errno) {
	t.Helper()
	if p, n, e := journal.Next(b, at); !bytes.Equal(p, payload) || n != next || e != want {
		t.Errorf("Next(%d bytes, %d): %d bytes, %d, %d; want %d, %d, %d", len(b), at, len(p), n, e, len(payload), next, want)
	}
}

func checkGet(t *testing.T, b []byte, at int, r journal.Ref, payload []byte, want api.Errno) {
	t.Helper()
	if p, e := journal.Get(b, at, r); !bytes.Equal(p, payload) || e != want {
		t.Errorf("Get(%d bytes, %d, %d): %d bytes, %d; want %d, %d", len(b), at, r, len(p), e, len(payload), want)
	}
}

// checkFails: no payload's frame stands at a place, whatever its reference is.
func checkFails(t *testing.T, b []byte, at int, want api.Errno) {
	t.Helper()
	checkNext(t, b, at, nil, at, want)
	for _, r := range []journal.Ref{{}, of([]byte("ab")), {Size: math.MaxUint64, Sum: math.MaxUint64}} {
		checkGet(t, b, at, r, nil, want)
	}
	if at == 0 {
		checkWhole(t, b, nil, 0)
	}
}

func checkWhole(t *testing.T, b []byte, l [][]byte, end int) {
	t.Helper()
	if got := journal.All(b); !slices.EqualFunc(got, l, bytes.Equal) {
		t.Errorf("All(%d bytes): %d; want %d", len(b), len(got), len(l))
	}
	if got := journal.Whole(b); got != end {
		t.Errorf("Whole(%d bytes): %d; want %d", len(b), got, end)
	}
	if got := journal.Cut(b); !bytes.Equal(got, b[:end]) {
		t.Errorf("Cut(%d bytes): %d bytes; want %d", len(b), len(got), end)
	}
}

func checkAppend(t *testing.T, b, payload []byte, end int) {
	t.Helper()
	out, at, r, e := journal.Append(b, payload)
	if want := slices.Concat(b[:end], framed(9, payload)); !bytes.Equal(out, want) || at != end || r != of(payload) || e != api.OK {
		t.Errorf("Append(%d bytes, %d bytes): %d bytes, %d, %d, %d; want %d, %d, %d", len(b), len(payload), len(out), at, r, e, len(want), end, of(payload))
	}
}

// checkAll: what every call tells of a segment is what the words tell, at every place.
func checkAll(t *testing.T, b []byte) {
	t.Helper()
	l, end := whole(b)
	all := make([][]byte, 0, len(l))
	for _, p := range l {
		all = append(all, p.payload)
	}
	checkWhole(t, b, all, end)
	checkAppend(t, b, []byte("cd"), end)
	checkAppend(t, b, nil, end)
	for at := -2; at < len(b)+2; at++ {
		switch kind, p := stands(b, at); {
		case kind < 0:
			checkNext(t, b, at, nil, at, api.Errno(-kind))
			checkGet(t, b, at, of(nil), nil, api.Errno(-kind))
		case kind != 9:
			checkNext(t, b, at, nil, at, api.ErrKind)
			checkGet(t, b, at, of(p.payload), nil, api.ErrKind)
		default:
			checkNext(t, b, at, p.payload, p.next, api.OK)
			checkGet(t, b, at, of(p.payload), p.payload, api.OK)
			checkGet(t, b, at, of([]byte("another")), nil, api.ErrRef)
		}
	}
}

// P11.1: whatever the payload's size is, that it may not be put included.
func TestOf(t *testing.T) {
	if journal.Kind != 9 {
		t.Errorf("Kind: %d", journal.Kind)
	}
	for text, want := range map[string]journal.Ref{"": {}, "123456789": {Size: 9, Sum: 0xE3069283}, string(make([]byte, 32)): {Size: 32, Sum: 0x8A9136AA}} {
		if r := journal.Of([]byte(text)); r != want {
			t.Errorf("Of(%q): %d; want %d", text, r, want)
		}
	}
	for _, p := range append(payloads(), some(65536), some(1<<20)) {
		if r := journal.Of(p); r != of(p) {
			t.Errorf("Of(%d bytes): %d; want %d", len(p), r, of(p))
		}
	}
}

// P11.1
func TestPut(t *testing.T) {
	b, e := journal.Put([]byte("ab"), nil)
	want := []byte{9, 2, 'a', 'b', 0, 0, 0, 0, 9, 0, 0, 0, 0, 0}
	binary.LittleEndian.PutUint32(want[4:], sum(want[:4]))
	binary.LittleEndian.PutUint32(want[10:], sum(want[8:10]))
	if !bytes.Equal(b, want) || e != api.OK || journal.Whole(b) != 14 || journal.Whole(b[:13]) != 8 {
		t.Errorf("the example: %x, %d", b, e)
	}
	checkPut(t)
	checkPut(t, [][]byte{}...)
	l := payloads()
	for i, p := range l {
		checkPut(t, p)
		checkPut(t, p, p)
		checkPut(t, l[:i+1]...)
		checkPut(t, l[i:]...)
	}
}

// P11.1, P11.4: one byte past the limit, and far more, at any place.
func TestTooLong(t *testing.T) {
	short := []byte("ab")
	for _, many := range []int{65536, 65537, 1 << 17, 1 << 20} {
		long := some(many)
		for _, l := range [][][]byte{{long}, {long, short}, {short, long}, {short, long, nil}, {long, long}} {
			if b, e := journal.Put(l...); len(b) != 0 || e != api.ErrLimit {
				t.Errorf("Put with %d bytes: %d bytes, %d", many, len(b), e)
			}
		}
		for _, b := range [][]byte{nil, {}, {0}, written(short), written(short, nil)[:9], framed(8, short)} {
			if out, at, r, e := journal.Append(b, long); len(out) != 0 || at != 0 || r != (journal.Ref{}) || e != api.ErrLimit {
				t.Errorf("Append of %d bytes: %d bytes, %d, %d, %d", many, len(out), at, r, e)
			}
		}
	}
}

// P11.2
func TestNext(t *testing.T) {
	l := payloads()
	b := written(l...)
	at := 0
	for _, p := range l {
		next := at + len(framed(9, p))
		checkNext(t, b, at, p, next, api.OK)
		checkGet(t, b, at, of(p), p, api.OK)
		at = next
	}
	checkFails(t, b, at, api.ErrShort)
	// Whatever stands ahead, and behind.
	for _, ahead := range [][]byte{nil, {0}, {9}, some(30), framed(8, nil)} {
		for _, behind := range [][]byte{nil, {0}, {9}, some(30), framed(8, nil)} {
			b := slices.Concat(ahead, framed(9, []byte("ab")), behind)
			checkNext(t, b, len(ahead), []byte("ab"), len(ahead)+8, api.OK)
			checkGet(t, b, len(ahead), of([]byte("ab")), []byte("ab"), api.OK)
		}
	}
	// A place within a payload is one, too.
	checkNext(t, written(written([]byte("in"))), 2, []byte("in"), 10, api.OK)
}

// P11.2: a place that there is not, however far off.
func TestNoPlace(t *testing.T) {
	for _, b := range [][]byte{nil, {}, written([]byte("ab")), {9}, make([]byte, 9)} {
		for _, at := range []int{-1, -8, math.MinInt, math.MinInt32, len(b), len(b) + 1, math.MaxInt32, math.MaxInt - 1, math.MaxInt} {
			checkFails(t, b, at, api.ErrShort)
		}
	}
}

// P11.2: the errors of what stands there, of this kind and of another one.
func TestNoFrame(t *testing.T) {
	for _, kind := range []byte{9, 8, 0, 255} {
		ab := framed(kind, []byte("ab"))
		for many := range ab {
			checkFails(t, ab[:many], 0, api.ErrShort)
		}
		for i := range ab {
			if i == 1 {
				continue // another length is another error
			}
			wrong := slices.Clone(ab)
			wrong[i]--
			checkFails(t, wrong, 0, api.ErrSum)
			checkFails(t, append(written(nil), wrong...), 6, api.ErrSum)
		}
		checkFails(t, []byte{kind, 0x80, 0, 0, 0, 0, 0}, 0, api.ErrLong)
		checkFails(t, append([]byte{kind}, bytes.Repeat([]byte{0xFF}, 11)...), 0, api.ErrLong)
		checkFails(t, framed(kind, some(65536)), 0, api.ErrLimit)
		checkFails(t, binary.AppendUvarint([]byte{kind}, math.MaxUint64), 0, api.ErrLimit)
	}
}

// P11.2: all other kinds, of frames that are whole.
func TestOtherKinds(t *testing.T) {
	for kind := range 256 {
		for _, body := range [][]byte{nil, []byte("ab"), written([]byte("ab"))} {
			b := framed(uint8(kind), body)
			if kind == 9 {
				checkNext(t, b, 0, body, len(b), api.OK)
				continue
			}
			checkFails(t, b, 0, api.ErrKind)
			checkGet(t, b, 0, of(body), nil, api.ErrKind)
			checkGet(t, append(written(nil), b...), 6, of(body), nil, api.ErrKind)
			checkWhole(t, slices.Concat(written(nil), b, written(nil)), [][]byte{nil}, 6)
		}
	}
}

// P11.2
func TestGet(t *testing.T) {
	b := written([]byte("ab"), nil, []byte("cd"))
	checkGet(t, b, 0, of([]byte("ab")), []byte("ab"), api.OK)
	checkGet(t, b, 8, journal.Ref{}, nil, api.OK)
	checkGet(t, b, 14, of([]byte("cd")), []byte("cd"), api.OK)
	for _, l := range []struct {
		at int
		r  journal.Ref
	}{{0, of([]byte("cd"))}, {0, of(nil)}, {14, of([]byte("ab"))}, {8, of([]byte("ab"))}, {8, journal.Ref{Size: 1}}, {8, journal.Ref{Sum: 1}}} {
		checkGet(t, b, l.at, l.r, nil, api.ErrRef)
	}
	for _, p := range payloads() {
		b, r := framed(9, p), of(p)
		checkGet(t, b, 0, r, p, api.OK)
		for i := range 64 {
			checkGet(t, b, 0, journal.Ref{Size: r.Size ^ 1<<i, Sum: r.Sum}, nil, api.ErrRef)
			checkGet(t, b, 0, journal.Ref{Size: r.Size, Sum: r.Sum ^ 1<<i}, nil, api.ErrRef)
		}
		checkGet(t, b, 0, journal.Ref{Size: r.Sum + 1, Sum: r.Size + 1}, nil, api.ErrRef)
		checkGet(t, b, 0, journal.Ref{Size: math.MaxUint64, Sum: math.MaxUint64}, nil, api.ErrRef)
		checkGet(t, b, 1, r, nil, why(b, 1))
	}
}

// why no payload stands at a place, by the words.
func why(b []byte, at int) api.Errno {
	kind, _ := stands(b, at)
	if kind < 0 {
		return api.Errno(-kind)
	}
	return api.ErrKind
}

// P11.2: a reference tells a size and a sum, and no more: of two payloads with the same sum it is the size that counts.
func TestSameSum(t *testing.T) {
	for _, l := range [][2]string{{"ntq5fr4r", "ndzcqm9z8"}, {"", "\xab\x9b\xe0\x9b"}} {
		p, q := []byte(l[0]), []byte(l[1])
		if sum(p) != sum(q) || len(p) == len(q) {
			t.Fatalf("%q, %q: another sum", p, q)
		}
		checkGet(t, written(p), 0, of(q), nil, api.ErrRef)
		checkGet(t, written(q), 0, of(p), nil, api.ErrRef)
	}
	p, q := []byte("n8obxmoxf"), []byte("n51ncql52")
	if sum(p) != sum(q) || len(p) != len(q) {
		t.Fatalf("%q, %q: another reference", p, q)
	}
	checkGet(t, written(p), 0, of(q), p, api.OK)
}

// P11.3
func TestWhole(t *testing.T) {
	checkWhole(t, nil, nil, 0)
	checkWhole(t, []byte{}, nil, 0)
	l := payloads()
	var b []byte
	for i, p := range l {
		b = append(b, framed(9, p)...)
		checkWhole(t, b, l[:i+1], len(b))
		for _, tail := range tails() {
			checkWhole(t, slices.Concat(b, tail), l[:i+1], len(b))
			checkWhole(t, slices.Concat(tail, b), nil, 0)
			checkWhole(t, slices.Concat(b, tail, b), l[:i+1], len(b))
		}
	}
}

// tails are torn ones: at none of their beginnings a payload's frame stands, whatever comes behind.
func tails() [][]byte {
	wrong := framed(9, []byte("ab"))
	wrong[7]++
	return [][]byte{{0}, {9}, {9, 0}, {9, 0x80}, {9, 0x80, 0}, {9, 0xFF, 0xFF, 0x7F}, make([]byte, 6), make([]byte, 100), some(100), wrong,
		framed(9, []byte("ab"))[:7], framed(9, nil)[1:], framed(8, nil), framed(10, []byte("ab")), framed(0, written(nil)), framed(9, some(65536))}
}

// P11.3: a great many, of as few bytes as may be.
func TestManyPayloads(t *testing.T) {
	l := make([][]byte, 50000)
	b, e := journal.Put(l...)
	if len(b) != 6*len(l) || e != api.OK {
		t.Fatalf("%d bytes, %d", len(b), e)
	}
	checkWhole(t, b, l, len(b))
	checkWhole(t, b[:len(b)-1], l[1:], len(b)-6)
	checkAppend(t, b, []byte("ab"), len(b))
}

// P11.4
func TestAppend(t *testing.T) {
	ab, c := []byte("ab"), []byte("c")
	torn := written(ab, nil)[:13]
	out, at, r, e := journal.Append(torn, c)
	if !bytes.Equal(out, slices.Concat(torn[:8], framed(9, c))) || len(out) != 15 || at != 8 || r != of(c) || e != api.OK {
		t.Errorf("the example: %x, %d, %d, %d", out, at, r, e)
	}
	checkGet(t, out, 8, of(c), c, api.OK)
	checkGet(t, out, 0, of(c), nil, api.ErrRef)
	for _, p := range payloads() {
		checkAppend(t, nil, p, 0)
		checkAppend(t, []byte{}, p, 0)
		checkAppend(t, written(ab, p), p, len(written(ab, p)))
		for _, tail := range tails() {
			checkAppend(t, tail, p, 0)
			checkAppend(t, slices.Concat(written(ab), tail), p, 8)
			checkAppend(t, slices.Concat(written(ab), tail, written(ab)), p, 8)
		}
	}
}

// P11.2 to P11.4: all segments of up to three pieces, whole ones and others, cut off or not.
func TestAllSegments(t *testing.T) {
	wrong := framed(9, []byte("a"))
	wrong[2]++
	pieces := [][]byte{framed(9, nil), framed(9, []byte("ab")), framed(9, framed(9, nil)), framed(8, nil), framed(9, []byte("ab"))[:5], wrong, {9}, {0}, {9, 0x80, 0}, {9, 0x80, 0x80, 4}}
	var grow func(b []byte, left int)
	grow = func(b []byte, left int) {
		checkAll(t, b)
		if left == 0 || t.Failed() {
			return
		}
		for _, piece := range pieces {
			grow(slices.Concat(b, piece), left-1)
		}
	}
	grow(nil, 3)
}

// P11.2 to P11.4: any bytes, of which some are summed.
func TestAnyBytes(t *testing.T) {
	summed := func(b []byte) []byte { return binary.LittleEndian.AppendUint32(slices.Clone(b), sum(b)) }
	var grow func(b []byte, left int)
	grow = func(b []byte, left int) {
		checkAll(t, b)
		if left == 0 || t.Failed() {
			return
		}
		for _, c := range []byte{0, 1, 8, 9, 0x80, 0xFF} {
			grow(append(slices.Clone(b), c), left-1)
			grow(summed(append(slices.Clone(b), c)), left-1)
		}
	}
	grow(nil, 3)
}

// P11.5: nothing of what is handed in is changed, what lies behind its length included.
func TestOnlyRead(t *testing.T) {
	b := slices.Concat(written([]byte("ab"), nil, []byte("cd")), framed(8, []byte("x")), some(100))
	was := slices.Clone(b)
	r := of([]byte("ab"))
	for many := range b {
		journal.Of(b[:many])
		journal.Put(b[:many], b[many:], b[:many:many])
		journal.Append(b[:many], b[:many/2])
		journal.Append(b[:many], nil)
		journal.Append(nil, b[:many])
		for _, at := range []int{0, 8, 14, 22} {
			journal.Get(b[:many], at, r)
			journal.Next(b[:many], at)
		}
		journal.All(b[:many])
		journal.Whole(b[:many])
		journal.Cut(b[:many])
	}
	if !bytes.Equal(b, was) {
		t.Errorf("changed: %x; was %x", b, was)
	}
	l := [][]byte{b[:2], nil, b[4:4], b[1:]}
	if journal.Put(l[:3]...); len(l[0]) != 2 || l[1] != nil || len(l[2]) != 0 || &l[3][0] != &b[1] {
		t.Error("the payloads are other ones")
	}
}

// spoil turns a list's bytes into others, those behind its length included.
func spoil(b []byte) {
	for i := range b[:cap(b)] {
		b[:cap(b)][i] ^= 0x5A
	}
}

// P11.5: what is answered stays as it is, whatever is done to what was handed in, and to other answers.
func TestNewMemory(t *testing.T) {
	ab, cd := []byte("ab"), []byte("cd")
	want := written(ab, cd)
	answers := func() (l [][]byte) {
		b, payload := slices.Clone(want), []byte("cd")
		put, _ := journal.Put([]byte("ab"), payload)
		roomy := append(make([]byte, 0, 100), want[:8]...)
		out, _, _, _ := journal.Append(roomy, payload)
		torn, _, _, _ := journal.Append(append(b[:8:8], 0), payload)
		l = append(l, put, out, torn, journal.Cut(b), journal.Cut(append(b, 0)))
		spoil(b)
		spoil(payload)
		spoil(roomy)
		return l
	}
	for _, l := range [][][]byte{answers(), answers()} {
		for i, b := range l {
			if !bytes.Equal(b, want) {
				t.Errorf("%d: %x; want %x", i, b, want)
			}
			spoil(b)
		}
	}
	b := slices.Clone(want)
	next, _, _ := journal.Next(b, 0)
	again, _, _ := journal.Next(b, 0)
	get, _ := journal.Get(b, 0, of(ab))
	l := [][]byte{next, again, get, journal.All(b)[0]}
	l = append(l, journal.All(append(written(ab), b...))[:2]...)
	spoil(b)
	for i, p := range l {
		if string(p) != "ab" {
			t.Errorf("%d: %x", i, p)
		}
		spoil(p)
	}
}

// P11.5: a segment's append doesn't go on in the memory of an answer that somebody else goes on with as well.
func TestAppendTwice(t *testing.T) {
	first, _, _, _ := journal.Append(nil, []byte("ab"))
	for range 3 {
		left, _, _, _ := journal.Append(first, []byte("c"))
		right, at, _, _ := journal.Append(first, []byte("d"))
		checkGet(t, left, at, of([]byte("c")), []byte("c"), api.OK)
		checkGet(t, right, at, of([]byte("d")), []byte("d"), api.OK)
		first = right
	}
	// A payload may be a piece of its segment.
	b := written([]byte("ab"))
	checkAppend(t, b, b[2:4], 8)
	checkAppend(t, b[:4], b[2:4], 0)
	checkAppend(t, b[:7], b, 0)
}

// P11.5: of a long segment no more is kept than what is answered.
func TestNothingElseIsKept(t *testing.T) {
	inUse := func() int64 {
		var m runtime.MemStats
		runtime.GC()
		runtime.ReadMemStats(&m)
		return int64(m.HeapAlloc)
	}
	const long = 1 << 23
	segment := func() []byte { return append(written([]byte("ab")), make([]byte, long)...) }
	before := inUse()
	all := journal.All(segment())
	next, _, _ := journal.Next(segment(), 0)
	get, _ := journal.Get(segment(), 0, of([]byte("ab")))
	out, _, _, _ := journal.Append(segment(), []byte("ab"))
	cut := journal.Cut(segment())
	if more := inUse() - before; more > long/2 {
		t.Errorf("%d bytes more are kept", more)
	}
	for _, b := range [][]byte{all[0], next, get, out, cut} {
		runtime.KeepAlive(b)
	}
}

// P11.6: whatever is appended, and whatever of the segment is cut off behind it.
func TestGotByReference(t *testing.T) {
	type put struct {
		payload  []byte
		at, next int
		r        journal.Ref
	}
	var b []byte
	var l []put
	for _, p := range payloads()[:14] {
		next, at, r, e := journal.Append(b, p)
		if e != api.OK {
			t.Fatal(e)
		}
		b, l = next, append(l, put{p, at, len(next), r})
		for _, q := range l {
			checkGet(t, b, q.at, q.r, q.payload, api.OK)
		}
	}
	for many := len(b); many >= 0; many-- {
		torn := b[:many]
		for len(l) > 0 && l[len(l)-1].next > many {
			l = l[:len(l)-1]
		}
		for _, q := range l {
			checkGet(t, torn, q.at, q.r, q.payload, api.OK)
		}
		again, _, _, _ := journal.Append(torn, []byte("again"))
		for _, q := range l {
			checkGet(t, again, q.at, q.r, q.payload, api.OK)
		}
	}
}

// P11.6: of a segment that is cut anywhere those payloads are whole whose frames are, and what is cut is whole.
func TestCutAnywhere(t *testing.T) {
	l := [][]byte{[]byte("ab"), nil, some(130), written([]byte("in")), {9}}
	b, e := journal.Put(l...)
	if e != api.OK {
		t.Fatal(e)
	}
	for many := range len(b) + 1 {
		left, end := 0, 0
		for left < len(l) && end+len(framed(9, l[left])) <= many {
			end += len(framed(9, l[left]))
			left++
		}
		checkWhole(t, b[:many], l[:left], end)
		for _, tail := range tails() {
			cut := journal.Cut(slices.Concat(b[:end], tail, b))
			if journal.Whole(cut) != len(cut) || !bytes.Equal(journal.Cut(cut), cut) || len(cut) != end {
				t.Errorf("cut at %d: %d of %d bytes are whole; want %d", many, journal.Whole(cut), len(cut), end)
			}
		}
	}
}

// P11.2, P11.6: with one bit another one, the payload isn't got.
func TestOtherBits(t *testing.T) {
	for _, p := range [][]byte{nil, []byte("ab"), make([]byte, 127), some(128)} {
		b := framed(9, p)
		size := len(b)
		b = append(b, some(1000)...)
		for bit := range 8 * size {
			b[bit/8] ^= 1 << (bit % 8)
			if q, e := journal.Get(b, 0, of(p)); e == api.OK || len(q) != 0 {
				t.Errorf("%d bytes, bit %d: got", len(p), bit)
			}
			if end := journal.Whole(b); end >= size {
				t.Errorf("%d bytes, bit %d: %d are whole", len(p), bit, end)
			}
			b[bit/8] ^= 1 << (bit % 8)
		}
		checkGet(t, b, 0, of(p), p, api.OK)
	}
}

// P11.1, P11.3: a segment is what frames of the kind are.
func TestFramesOfTheKind(t *testing.T) {
	var l []frame.Frame
	for _, p := range payloads() {
		l = append(l, frame.Frame{Kind: journal.Kind, Body: p})
	}
	b, e := frame.Join(l...)
	if put, f := journal.Put(payloads()...); !bytes.Equal(put, b) || e != f || e != api.OK {
		t.Errorf("%d bytes, %d; want %d, %d", len(put), f, len(b), e)
	}
	checkWhole(t, b, payloads(), len(b))
}
