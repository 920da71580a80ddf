package frame_test

import (
	"bytes"
	"encoding/binary"
	"hash/crc32"
	"math"
	"slices"
	"testing"

	"chartroom/api"
	"chartroom/frame"
)

// some bytes, each time the same ones, none like its neighbours.
func some(many int) []byte {
	b := make([]byte, many)
	n := uint32(12345)
	for i := range b {
		n = n*1664525 + 1013904223
		b[i] = byte(n >> 24)
	}
	return b
}

// summed is b, and behind it its sum, the least byte first, by the library.
func summed(b []byte) []byte {
	sum := crc32.Checksum(b, crc32.MakeTable(crc32.Castagnoli))
	return binary.LittleEndian.AppendUint32(slices.Clone(b), sum)
}

// written is a frame by its words, whatever its body's size.
func written(f frame.Frame) []byte {
	return summed(append(binary.AppendUvarint([]byte{f.Kind}, uint64(len(f.Body))), f.Body...))
}

// ab is written({7, ab}), in its digits.
func ab() []byte { return []byte{7, 2, 'a', 'b', 0xE4, 0xFF, 0xCB, 0x0D} }

// frames of all sorts: of no body, of bodies on both sides of each more byte of the length, of frames in a frame.
func frames() []frame.Frame {
	l := []frame.Frame{
		{}, {Kind: 255}, {Kind: 7, Body: []byte("ab")}, {Kind: 9, Body: []byte{}}, {Body: []byte{0}},
		{Kind: 128, Body: bytes.Repeat([]byte{0xFF}, 40)}, {Kind: 1, Body: make([]byte, 300)},
		{Kind: 12, Body: slices.Concat(ab(), ab())},
	}
	for _, many := range []int{1, 4, 126, 127, 128, 129, 255, 256, 16383, 16384, 16385, 65534, 65535} {
		l = append(l, frame.Frame{Kind: uint8(many), Body: some(many)})
	}
	return l
}

func same(f, g frame.Frame) bool { return f.Kind == g.Kind && bytes.Equal(f.Body, g.Body) }

func checkTake(t *testing.T, b []byte, at int, want frame.Frame, next int) {
	t.Helper()
	if f, n, e := frame.Take(b, at); !same(f, want) || n != next || e != api.OK {
		t.Errorf("Take(%d bytes, %d): kind %d, %d bytes, %d, %d", len(b), at, f.Kind, len(f.Body), n, e)
	}
}

func checkFails(t *testing.T, b []byte, at int, want api.Errno) {
	t.Helper()
	if f, n, e := frame.Take(b, at); !same(f, frame.Frame{}) || n != at || e != want {
		t.Errorf("Take(%d bytes, %d): kind %d, %d bytes, %d, %d; want %d", len(b), at, f.Kind, len(f.Body), n, e, want)
	}
	if at != 0 {
		return
	}
	if f, e := frame.One(b); !same(f, frame.Frame{}) || e != want {
		t.Errorf("One(%d bytes): kind %d, %d bytes, %d; want %d", len(b), f.Kind, len(f.Body), e, want)
	}
	if l, good := frame.All(b); len(l) != 0 || good != 0 {
		t.Errorf("All(%d bytes): %d frames, %d", len(b), len(l), good)
	}
}

func checkAll(t *testing.T, b []byte, want []frame.Frame, good int) {
	t.Helper()
	if l, n := frame.All(b); !slices.EqualFunc(l, want, same) || n != good {
		t.Errorf("All(%d bytes): %d frames, %d; want %d, %d", len(b), len(l), n, len(want), good)
	}
}

// P3.1
func TestPut(t *testing.T) {
	if !bytes.Equal(ab(), written(frame.Frame{Kind: 7, Body: []byte("ab")})) {
		t.Fatalf("the example: %x", written(frame.Frame{Kind: 7, Body: []byte("ab")}))
	}
	if b, e := frame.Put(frame.Frame{Kind: 7, Body: []byte("ab")}); !bytes.Equal(b, ab()) || e != api.OK {
		t.Errorf("Put(7, ab): %x, %d", b, e)
	}
	for _, f := range frames() {
		if b, e := frame.Put(f); !bytes.Equal(b, written(f)) || e != api.OK {
			t.Errorf("Put(%d, %d bytes): %d bytes, %d", f.Kind, len(f.Body), len(b), e)
		}
	}
	for kind := range 256 {
		f := frame.Frame{Kind: uint8(kind), Body: []byte("x")}
		if b, e := frame.Put(f); !bytes.Equal(b, written(f)) || e != api.OK {
			t.Errorf("Put(%d, x): %x, %d", kind, b, e)
		}
	}
}

// P3.1: one byte past the limit, and far more.
func TestTooLong(t *testing.T) {
	short := frame.Frame{Kind: 7, Body: []byte("ab")}
	for _, many := range []int{65536, 65537, 1 << 20} {
		f := frame.Frame{Kind: 3, Body: make([]byte, many)}
		if b, e := frame.Put(f); len(b) != 0 || e != api.ErrLimit {
			t.Errorf("Put of %d bytes: %d bytes, %d", many, len(b), e)
		}
		for _, l := range [][]frame.Frame{{f}, {f, short}, {short, f}, {short, f, short}, {f, f}} {
			if b, e := frame.Join(l...); len(b) != 0 || e != api.ErrLimit {
				t.Errorf("Join with %d bytes: %d bytes, %d", many, len(b), e)
			}
		}
	}
}

// P3.1
func TestJoin(t *testing.T) {
	for _, l := range [][]frame.Frame{nil, {}} {
		if b, e := frame.Join(l...); len(b) != 0 || e != api.OK {
			t.Errorf("Join of none: %x, %d", b, e)
		}
	}
	l := frames()
	var want []byte
	for i, f := range l {
		want = append(want, written(f)...)
		if b, e := frame.Join(l[:i+1]...); !bytes.Equal(b, want) || e != api.OK {
			t.Errorf("Join of %d: %d bytes, %d; want %d", i+1, len(b), e, len(want))
		}
	}
	if b, e := frame.Join(l[2], l[2]); !bytes.Equal(b, append(ab(), ab()...)) || e != api.OK {
		t.Errorf("Join of the same, twice: %x, %d", b, e)
	}
}

// P3.1: whatever the body's size is.
func TestSize(t *testing.T) {
	if n := frame.Size(frame.Frame{Kind: 7, Body: []byte("ab")}); n != 8 {
		t.Errorf("Size(7, ab): %d", n)
	}
	for many, want := range map[int]int{0: 6, 127: 133, 128: 135, 16383: 16390, 16384: 16392, 65535: 65543, 65536: 65544, 1 << 21: 1<<21 + 9} {
		if n := frame.Size(frame.Frame{Body: make([]byte, many)}); n != want {
			t.Errorf("Size of %d bytes: %d; want %d", many, n, want)
		}
	}
	for _, f := range append(frames(), frame.Frame{Kind: 1, Body: some(70000)}) {
		if n := frame.Size(f); n != len(written(f)) {
			t.Errorf("Size of %d bytes: %d; want %d", len(f.Body), n, len(written(f)))
		}
	}
}

// P3.2
func TestTake(t *testing.T) {
	f := frame.Frame{Kind: 7, Body: []byte("ab")}
	checkTake(t, ab(), 0, f, 8)
	b := slices.Concat([]byte{7, 2, 'a'}, ab(), ab(), []byte{7})
	checkTake(t, b, 3, f, 11)
	checkTake(t, b, 11, f, 19)
	for _, f := range frames() {
		checkTake(t, written(f), 0, f, frame.Size(f))
	}
}

// P3.2: a place that there is not, however far off.
func TestNoPlace(t *testing.T) {
	for _, b := range [][]byte{nil, {}, ab(), ab()[:1], make([]byte, 9)} { // a length of 0 stands behind -1, too
		for _, at := range []int{-1, -8, math.MinInt, math.MinInt32, len(b), len(b) + 1, math.MaxInt32, math.MaxInt - 1, math.MaxInt} {
			checkFails(t, b, at, api.ErrShort)
		}
	}
}

// P3.2: the length's errors, one place behind the kind.
func TestLength(t *testing.T) {
	checkFails(t, []byte{7}, 0, api.ErrShort)
	checkFails(t, []byte{7, 0x80}, 0, api.ErrShort)
	checkFails(t, []byte{7, 0x80, 0x80}, 0, api.ErrShort)
	checkFails(t, []byte{0x80, 0x80, 0}, 0, api.ErrLong)
	checkFails(t, summed([]byte{7, 0x82, 0, 'a', 'b'}), 0, api.ErrLong) // not written shortest, else whole
	checkFails(t, summed([]byte{7, 0x80, 0x00}), 0, api.ErrLong)
	checkFails(t, append([]byte{7}, bytes.Repeat([]byte{0xFF}, 10)...), 0, api.ErrLong)
	checkFails(t, append([]byte{9, 9, 7}, bytes.Repeat([]byte{0xFF}, 9)...), 2, api.ErrShort)
	checkFails(t, append(ab(), 7, 0x80, 0), 8, api.ErrLong)
}

// P3.2: a length above the limit, be there so many bytes or not, and the sum theirs or not.
func TestLengthAboveLimit(t *testing.T) {
	for _, many := range []int{65536, 65537, 100000} {
		f := frame.Frame{Kind: 7, Body: some(many)}
		checkFails(t, written(f), 0, api.ErrLimit)
		checkFails(t, written(f)[:5], 0, api.ErrLimit)
		checkFails(t, append(ab(), written(f)...), 8, api.ErrLimit)
	}
	for _, n := range []uint64{65536, 1 << 31, 1<<32 - 1, 1 << 32, 1<<32 + 2, 1<<63 - 6, 1<<63 - 1, 1 << 63, math.MaxUint64 - 3, math.MaxUint64} {
		checkFails(t, binary.AppendUvarint([]byte{7}, n), 0, api.ErrLimit)
		checkFails(t, append(binary.AppendUvarint([]byte{7}, n), some(70000)...), 0, api.ErrLimit)
	}
	// The greatest that may be, of which nothing but the length is there.
	checkFails(t, binary.AppendUvarint([]byte{7}, 65535), 0, api.ErrShort)
}

// P3.2: cut off anywhere.
func TestCutOff(t *testing.T) {
	for _, f := range []frame.Frame{{}, {Kind: 7, Body: []byte("ab")}, {Kind: 255, Body: some(200)}} {
		b := written(f)
		for many := range b {
			checkFails(t, b[:many], 0, api.ErrShort)
			checkFails(t, append(ab(), b[:many]...), 8, api.ErrShort)
		}
	}
	b := written(frame.Frame{Kind: 1, Body: some(65535)})
	for _, many := range []int{1, 3, 4, 65539, 65542} {
		checkFails(t, b[:many], 0, api.ErrShort)
	}
}

// P3.2: cut off, and wrong as well: that it is short comes first.
func TestShortAheadOfSum(t *testing.T) {
	b := ab()
	b[0], b[5] = 6, 0
	checkFails(t, b[:7], 0, api.ErrShort)
	checkFails(t, b, 0, api.ErrSum)
}

// P3.2: another sum, in any of its bytes, and of other bytes than those of the frame.
func TestSum(t *testing.T) {
	for i := range 8 {
		if b := ab(); i != 1 {
			b[i]--
			checkFails(t, b, 0, api.ErrSum)
			checkFails(t, append(b, ab()...), 0, api.ErrSum)
			checkFails(t, append(ab(), b...), 8, api.ErrSum)
		}
	}
	b := ab()
	slices.Reverse(b[4:])
	checkFails(t, b, 0, api.ErrSum)
	body := slices.Concat([]byte{7, 2}, summed([]byte("ab")))
	checkFails(t, body, 0, api.ErrSum)
	checkFails(t, make([]byte, 6), 0, api.ErrSum)
}

// P3.3
func TestAll(t *testing.T) {
	f := frame.Frame{Kind: 7, Body: []byte("ab")}
	checkAll(t, slices.Concat(ab(), ab(), []byte{7}), []frame.Frame{f, f}, 16)
	checkAll(t, nil, nil, 0)
	checkAll(t, []byte{}, nil, 0)
	checkAll(t, []byte{7}, nil, 0)
	l := frames()
	var b []byte
	for i, f := range l {
		b = append(b, written(f)...)
		checkAll(t, b, l[:i+1], len(b))
		for _, behind := range [][]byte{{0}, {7, 0x80, 0}, {7, 0xFF, 0xFF, 0x7F}, make([]byte, 6), some(100)} {
			checkAll(t, slices.Concat(b, behind), l[:i+1], len(b))
		}
	}
}

// P3.3: what stands behind a place at which no frame stands is not told.
func TestAllStops(t *testing.T) {
	f := frame.Frame{Kind: 7, Body: []byte("ab")}
	checkAll(t, append([]byte{0}, ab()...), nil, 0)
	checkAll(t, slices.Concat(ab(), []byte{7}, ab()), []frame.Frame{f}, 8)
	wrong := ab()
	wrong[0] = 6
	checkAll(t, slices.Concat(wrong, ab()), nil, 0)
	checkAll(t, slices.Concat(ab(), ab(), wrong, ab()), []frame.Frame{f, f}, 16)
	long := written(frame.Frame{Body: some(65536)})
	checkAll(t, slices.Concat(ab(), long, ab()), []frame.Frame{f}, 8)
}

// P3.3: a great many, of as few bytes as may be.
func TestManyFrames(t *testing.T) {
	l := make([]frame.Frame, 50000)
	for i := range l {
		l[i].Kind = uint8(i)
	}
	b, e := frame.Join(l...)
	if len(b) != 6*len(l) || e != api.OK {
		t.Fatalf("%d bytes, %d", len(b), e)
	}
	checkAll(t, b, l, len(b))
	checkAll(t, b[:len(b)-1], l[:len(l)-1], len(b)-6)
}

// P3.3
func TestOne(t *testing.T) {
	for _, f := range frames() {
		b := written(f)
		if g, e := frame.One(b); !same(f, g) || e != api.OK {
			t.Errorf("One(%d bytes): %d, %d bytes, %d", len(b), g.Kind, len(g.Body), e)
		}
		for _, behind := range [][]byte{{0}, {0x80}, ab(), b} {
			if g, e := frame.One(slices.Concat(b, behind)); !same(g, frame.Frame{}) || e != api.ErrLong {
				t.Errorf("One(%d bytes, and %x): %d, %d bytes, %d", len(b), behind[0], g.Kind, len(g.Body), e)
			}
		}
	}
	// Take's error comes ahead of what stands behind.
	wrong := ab()
	wrong[0] = 6
	if g, e := frame.One(append(wrong, 0)); !same(g, frame.Frame{}) || e != api.ErrSum {
		t.Errorf("One(another sum, and a byte): %v, %d", g, e)
	}
	for _, none := range [][]byte{nil, {}} {
		checkFails(t, none, 0, api.ErrShort)
	}
}

// P3.4: nothing of what is handed in is changed, what lies behind its length included.
func TestOnlyRead(t *testing.T) {
	whole := slices.Concat(ab(), ab(), written(frame.Frame{Kind: 1, Body: some(20)}))
	was := slices.Clone(whole)
	for many := range whole {
		frame.Take(whole[:many], 0)
		frame.Take(whole[:many], 8)
		frame.All(whole[:many])
		frame.One(whole[:many])
	}
	l := []frame.Frame{{Kind: 7, Body: whole[:2]}, {Kind: 8}, {Kind: 9, Body: whole[4:4]}, {Kind: 10, Body: whole[1:]}}
	for i, f := range l {
		frame.Put(f)
		frame.Size(f)
		frame.Join(l[:i]...)
	}
	if !bytes.Equal(whole, was) {
		t.Errorf("changed: %x; was %x", whole, was)
	}
	if l[0].Kind != 7 || len(l[0].Body) != 2 || l[1].Body != nil || len(l[2].Body) != 0 || l[3].Kind != 10 || &l[3].Body[0] != &whole[1] {
		t.Error("the frames are other ones")
	}
}

// P3.4: what is answered stays as it is, whatever is done to what was handed in, and to other answers.
func TestNewMemory(t *testing.T) {
	body := []byte("ab")
	put, _ := frame.Put(frame.Frame{Kind: 7, Body: body})
	again, _ := frame.Join(frame.Frame{Kind: 7, Body: body})
	clear(body)
	clear(again)
	if !bytes.Equal(put, ab()) {
		t.Errorf("put: %x", put)
	}
	b := append(ab(), ab()...)
	first, _, _ := frame.Take(b, 0)
	second, _, _ := frame.Take(b, 0)
	one, _ := frame.One(b[:8])
	l, _ := frame.All(b)
	clear(b)
	bodies := [][]byte{first.Body, second.Body, one.Body, l[0].Body, l[1].Body}
	for i, x := range bodies {
		if string(x) != "ab" {
			t.Errorf("%d: %x", i, x)
		}
		_ = append(x[:cap(x)], 'z')
		clear(x[:cap(x)])
	}
}

// P3.5: whatever stands ahead and behind.
func TestTakenAsPut(t *testing.T) {
	around := [][]byte{nil, {0}, {0x80, 0xFF}, ab(), ab()[:5], make([]byte, 9)}
	for _, f := range frames() {
		b, e := frame.Put(f)
		if e != api.OK {
			t.Fatalf("Put of %d bytes: %d", len(f.Body), e)
		}
		for _, ahead := range around {
			for _, behind := range around {
				checkTake(t, slices.Concat(ahead, b, behind), len(ahead), f, len(ahead)+len(b))
			}
		}
	}
}

// P3.5: of frames whose end is cut off anywhere those that are whole are left.
func TestCutFrames(t *testing.T) {
	l := []frame.Frame{{Kind: 7, Body: []byte("ab")}, {}, {Kind: 1, Body: some(130)}, {Kind: 9, Body: ab()}, {Kind: 2}}
	b, e := frame.Join(l...)
	if e != api.OK {
		t.Fatal(e)
	}
	for many := range len(b) + 1 {
		whole, good := 0, 0
		for whole < len(l) && good+frame.Size(l[whole]) <= many {
			good += frame.Size(l[whole])
			whole++
		}
		checkAll(t, b[:many], l[:whole], good)
	}
}

// P3.5: with one bit another one, no frame of as many bytes stands there.
func TestOtherBits(t *testing.T) {
	for _, f := range []frame.Frame{{}, {Kind: 7, Body: []byte("ab")}, {Kind: 1, Body: make([]byte, 127)}, {Kind: 2, Body: some(128)}, {Kind: 3, Body: some(300)}} {
		b, _ := frame.Put(f)
		size := len(b)
		b = append(b, some(1000)...)
		for bit := range 8 * size {
			b[bit/8] ^= 1 << (bit % 8)
			if _, next, e := frame.Take(b, 0); e == api.OK && next == size {
				t.Errorf("%d bytes, bit %d: taken", size, bit)
			}
			if _, e := frame.One(b[:size]); e == api.OK {
				t.Errorf("%d bytes, bit %d: one", size, bit)
			}
			b[bit/8] ^= 1 << (bit % 8)
		}
		checkTake(t, b, 0, f, size)
	}
}

// P3.2, P3.3: any bytes are answered, and what stands there is what Put would write.
func TestAnyBytes(t *testing.T) {
	var grow func(b []byte, left int)
	grow = func(b []byte, left int) {
		f, next, e := frame.Take(b, 0)
		if put, _ := frame.Put(f); e == api.OK && !bytes.Equal(put, b[:next]) {
			t.Errorf("Take(%x): %v", b, f)
		}
		if l, good := frame.All(b); good > len(b) || (len(l) > 0) != (e == api.OK) {
			t.Errorf("All(%x): %d, %d", b, len(l), good)
		}
		if left == 0 {
			return
		}
		for _, c := range []byte{0, 1, 2, 0x7F, 0x80, 0xFF} {
			grow(append(b, c), left-1)
			grow(summed(append(b, c)), left-1)
		}
	}
	grow(nil, 4)
}
