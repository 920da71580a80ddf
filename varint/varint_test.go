package varint_test

import (
	"bytes"
	"encoding/binary"
	"math"
	"slices"
	"strings"
	"testing"

	"chartroom/api"
	"chartroom/varint"
)

// noise stands ahead of and behind what is read: it begins and ends as a number that goes on.
var noise = []byte{0x80, 0, 0xFF}

// edges are numbers beside each place at which one byte, or one digit, more is needed.
func edges() []uint64 {
	l := []uint64{0, 5, 97, 300, math.MaxUint64}
	for digits := range 64 {
		n := uint64(1) << digits
		l = append(l, n-1, n, n+1, n|0x55)
	}
	return l
}

// strings of at most five of these bytes, with up to ten bytes that go on ahead of them.
func everyString(f func(b []byte)) {
	var grow func(b []byte, left int)
	grow = func(b []byte, left int) {
		f(b)
		if left == 0 {
			return
		}
		for _, c := range []byte{0, 1, 2, 0x7F, 0x80, 0x81, 0xFF} {
			grow(append(b, c), left-1)
		}
	}
	for ahead := range 11 {
		for _, c := range []byte{0x80, 0xFF} {
			grow(bytes.Repeat([]byte{c}, ahead), 5)
		}
	}
}

// wanted is what Take(b, 0) must answer, found by the library's reader.
func wanted(b []byte) (n uint64, next int, e api.Errno) {
	n, used := binary.Uvarint(b)
	switch {
	case used > 0 && len(binary.AppendUvarint(nil, n)) == used:
		return n, used, api.OK
	case used == 0 && len(b) < binary.MaxVarintLen64:
		return 0, 0, api.ErrShort
	}
	return 0, 0, api.ErrLong
}

func checkTake(t *testing.T, b []byte, at int, n uint64, next int, e api.Errno) {
	t.Helper()
	if m, after, f := varint.Take(b, at); m != n || after != next || f != e {
		t.Errorf("Take(%x, %d): %d, %d, %d; want %d, %d, %d", b, at, m, after, f, n, next, e)
	}
}

func checkText(t *testing.T, b []byte, at int, s string, next int, e api.Errno) {
	t.Helper()
	if r, after, f := varint.TakeText(b, at); r != s || after != next || f != e {
		t.Errorf("TakeText(%x, %d): %q, %d, %d; want %q, %d, %d", b, at, r, after, f, s, next, e)
	}
}

func checkAll(t *testing.T, b []byte, at, many int, l []uint64, next int, e api.Errno) {
	t.Helper()
	if r, after, f := varint.TakeAll(b, at, many); !slices.Equal(r, l) || after != next || f != e {
		t.Errorf("TakeAll(%x, %d, %d): %v, %d, %d; want %v, %d, %d", b, at, many, r, after, f, l, next, e)
	}
}

// P1.1
func TestPutExamples(t *testing.T) {
	for _, x := range []struct {
		n    uint64
		want string
	}{
		{0, "\x00"}, {1, "\x01"}, {127, "\x7F"}, {128, "\x80\x01"}, {300, "\xAC\x02"},
		{16383, "\xFF\x7F"}, {16384, "\x80\x80\x01"},
		{1<<63 - 1, "\xFF\xFF\xFF\xFF\xFF\xFF\xFF\xFF\x7F"},
		{1 << 63, "\x80\x80\x80\x80\x80\x80\x80\x80\x80\x01"},
		{1<<64 - 1, "\xFF\xFF\xFF\xFF\xFF\xFF\xFF\xFF\xFF\x01"},
	} {
		if b := varint.Put(x.n); string(b) != x.want {
			t.Errorf("Put(%d): %x; want %x", x.n, b, x.want)
		}
		if n := varint.Size(x.n); n != len(x.want) {
			t.Errorf("Size(%d): %d; want %d", x.n, n, len(x.want))
		}
	}
}

// P1.1
func TestPutEdges(t *testing.T) {
	for _, n := range edges() {
		want := binary.AppendUvarint(nil, n)
		if b := varint.Put(n); !bytes.Equal(b, want) {
			t.Errorf("Put(%d): %x; want %x", n, b, want)
		}
		if size := varint.Size(n); size != len(want) {
			t.Errorf("Size(%d): %d; want %d", n, size, len(want))
		}
	}
}

// P1.1
func TestAll(t *testing.T) {
	if b := varint.All(); len(b) != 0 {
		t.Errorf("All(): %x", b)
	}
	if b := varint.All([]uint64{}...); len(b) != 0 {
		t.Errorf("All of an empty list: %x", b)
	}
	if b := varint.All(300, 0, 127, 0, 128); string(b) != "\xAC\x02\x00\x7F\x00\x80\x01" {
		t.Errorf("All: %x", b)
	}
	var want []byte
	for _, n := range edges() {
		want = binary.AppendUvarint(want, n)
	}
	if b := varint.All(edges()...); !bytes.Equal(b, want) {
		t.Errorf("All of the edges: %x; want %x", b, want)
	}
}

// P1.1
func TestText(t *testing.T) {
	long := strings.Repeat("x", 300)
	for _, x := range []struct{ s, want string }{
		{"", "\x00"}, {"ab", "\x02ab"}, {"\x00", "\x01\x00"}, {"\xFF\x80\x00", "\x03\xFF\x80\x00"}, {"é", "\x02é"},
		{long[:127], "\x7F" + long[:127]}, {long[:128], "\x80\x01" + long[:128]}, {long, "\xAC\x02" + long},
	} {
		if b := varint.Text(x.s); string(b) != x.want {
			t.Errorf("Text(%q): %x", x.s, b)
		}
	}
}

// P1.2
func TestTakeNumbers(t *testing.T) {
	checkTake(t, []byte{0xAC, 2, 5}, 0, 300, 2, api.OK)
	checkTake(t, []byte{0xAC, 2, 5}, 1, 2, 2, api.OK)
	checkTake(t, []byte{0xAC, 2, 5}, 2, 5, 3, api.OK)
	checkTake(t, []byte{0}, 0, 0, 1, api.OK)
	checkTake(t, []byte{0, 0}, 1, 0, 2, api.OK)
	for _, n := range edges() {
		b := binary.AppendUvarint(nil, n)
		checkTake(t, b, 0, n, len(b), api.OK)
	}
}

// P1.2: no place of b, or b ends in the number.
func TestTakeShort(t *testing.T) {
	for _, b := range [][]byte{nil, {}, {1}, {0x80, 1}} {
		for _, at := range []int{-1, -2, math.MinInt, len(b), len(b) + 1, math.MaxInt} {
			checkTake(t, b, at, 0, at, api.ErrShort)
		}
	}
	for groups := 1; groups < 10; groups++ {
		for _, c := range []byte{0x80, 0x81, 0xFF} {
			b := bytes.Repeat([]byte{c}, groups)
			checkTake(t, b, 0, 0, 0, api.ErrShort)
			checkTake(t, append([]byte{7}, b...), 1, 0, 1, api.ErrShort)
		}
	}
	// What stands in its memory behind b is none of b's.
	checkTake(t, []byte{0x80, 1}[:1], 0, 0, 0, api.ErrShort)
}

// P1.2: a last group of 0, more than ten groups, more than 2^64 - 1.
func TestTakeLong(t *testing.T) {
	for groups := 1; groups < 10; groups++ {
		b := append(bytes.Repeat([]byte{0xFF}, groups), 0)
		checkTake(t, b, 0, 0, 0, api.ErrLong)
		checkTake(t, append([]byte{0xFF, 3}, b...), 2, 0, 2, api.ErrLong)
	}
	nine := bytes.Repeat([]byte{0x80}, 9)
	for c := range 256 {
		b := append(slices.Clone(nine), byte(c))
		if c == 1 {
			checkTake(t, b, 0, 1<<63, 10, api.OK)
			continue
		}
		checkTake(t, b, 0, 0, 0, api.ErrLong)
		checkTake(t, append(b, 1), 0, 0, 0, api.ErrLong)
	}
}

// P1.2: whatever the bytes are.
func TestTakeAnything(t *testing.T) {
	everyString(func(b []byte) {
		n, next, e := wanted(b)
		checkTake(t, b, 0, n, next, e)
	})
}

// P1.3
func TestTakeText(t *testing.T) {
	b := []byte("\x00\x02ab\x05abcd")
	checkText(t, b, 0, "", 1, api.OK)
	checkText(t, b, 1, "ab", 4, api.OK)
	checkText(t, b, 4, "", 4, api.ErrShort)
	checkText(t, []byte{2, 'a'}, 0, "", 0, api.ErrShort)
	checkText(t, []byte{1}, 0, "", 0, api.ErrShort)
	checkText(t, []byte{1, 'a'}, 0, "a", 2, api.OK)
	checkText(t, []byte{3, 0xFF, 0, 0x80}, 0, "\xFF\x00\x80", 4, api.OK)
	checkText(t, []byte{2, 'a', 'b'}[:2], 0, "", 0, api.ErrShort)
	long := strings.Repeat("y", 200)
	checkText(t, []byte("\x07\xC8\x01"+long), 1, long, 203, api.OK)
	checkText(t, []byte("\x07\xC8\x01"+long[1:]), 1, "", 1, api.ErrShort)
}

// P1.3: the number's errors, and sizes that no int holds.
func TestTakeTextWrong(t *testing.T) {
	for _, at := range []int{-1, math.MinInt, 1, 2, math.MaxInt} {
		checkText(t, []byte{0}, at, "", at, api.ErrShort)
	}
	checkText(t, nil, 0, "", 0, api.ErrShort)
	checkText(t, []byte{9, 0x81}, 1, "", 1, api.ErrShort)
	checkText(t, []byte{9, 0x81, 0, 'a'}, 1, "", 1, api.ErrLong)
	checkText(t, bytes.Repeat([]byte{0x80}, 10), 0, "", 0, api.ErrLong)
	for _, size := range []uint64{4, 1 << 31, 1 << 32, 1<<32 + 1, 1<<63 - 1, 1 << 63, 1<<64 - 4, 1<<64 - 1} {
		b := append(binary.AppendUvarint([]byte{5}, size), "abc"...)
		checkText(t, b, 1, "", 1, api.ErrShort)
	}
}

// P1.4
func TestTakeAll(t *testing.T) {
	b := []byte{9, 0xAC, 2, 0, 0x7F}
	checkAll(t, b, 1, 3, []uint64{300, 0, 127}, 5, api.OK)
	checkAll(t, b, 1, 2, []uint64{300, 0}, 4, api.OK)
	checkAll(t, b, 3, 1, []uint64{0}, 4, api.OK)
	all := edges()
	w := binary.AppendUvarint(nil, 8)
	for _, n := range all {
		w = binary.AppendUvarint(w, n)
	}
	checkAll(t, append(w, 0x80), 1, len(all), all, len(w), api.OK)
}

// P1.4: below 1 there are none, wherever that is.
func TestTakeAllNone(t *testing.T) {
	for _, many := range []int{0, -1, math.MinInt} {
		for _, at := range []int{0, 1, 7, -1, math.MinInt, math.MaxInt} {
			checkAll(t, nil, at, many, nil, at, api.OK)
			checkAll(t, []byte{0x80}, at, many, nil, at, api.OK)
		}
	}
}

// P1.4: the first error, and the place that was asked for.
func TestTakeAllWrong(t *testing.T) {
	for _, many := range []int{3, 4, 1 << 40, math.MaxInt} {
		checkAll(t, []byte{1, 2}, 0, many, nil, 0, api.ErrShort)
	}
	checkAll(t, []byte{5, 1, 0x80}, 1, 2, nil, 1, api.ErrShort)
	checkAll(t, []byte{5, 1, 0x80, 0, 0x80}, 1, 3, nil, 1, api.ErrLong)
	checkAll(t, []byte{5, 1, 0x80, 0, 0x80}, 1, 1, []uint64{1}, 2, api.OK)
	for _, at := range []int{-1, math.MinInt, 1, math.MaxInt} {
		checkAll(t, []byte{1}, at, 1, nil, at, api.ErrShort)
	}
	checkAll(t, nil, 0, 1, nil, 0, api.ErrShort)
}

// P1.5: nothing of what is handed in is changed, what lies behind its length included.
func TestOnlyRead(t *testing.T) {
	whole := []byte{2, 'a', 'b', 0xAC, 2, 7, 8, 9}
	was := slices.Clone(whole)
	b := whole[:5]
	for at := -1; at < 7; at++ {
		varint.Take(b, at)
		varint.TakeText(b, at)
		for many := range 6 {
			varint.TakeAll(b, at, many)
		}
	}
	if !bytes.Equal(whole, was) {
		t.Errorf("changed: %x", whole)
	}
	numbers := []uint64{1, 300, 7, 8}
	varint.All(numbers[:2]...)
	if !slices.Equal(numbers, []uint64{1, 300, 7, 8}) {
		t.Errorf("changed: %v", numbers)
	}
}

// P1.5: what is written is nobody else's.
func TestNewBytes(t *testing.T) {
	for _, x := range []struct {
		write func() []byte
		want  string
	}{
		{func() []byte { return varint.Put(5) }, "\x05"},
		{func() []byte { return varint.All(300, 1) }, "\xAC\x02\x01"},
		{func() []byte { return varint.Text("ab") }, "\x02ab"},
	} {
		first := x.write()
		second := x.write()
		all := first[:cap(first)] // what lies behind the length, too
		for i := range all {
			all[i] = 0x55
		}
		if third := x.write(); string(second) != x.want || string(third) != x.want {
			t.Errorf("shared: %x, %x; want %x", second, third, x.want)
		}
	}
}

// P1.5: what is read is nobody else's.
func TestNewMemory(t *testing.T) {
	b := []byte{2, 'a', 'b'}
	s, _, _ := varint.TakeText(b, 0)
	first, _, _ := varint.TakeAll(b, 0, 3)
	second, _, _ := varint.TakeAll(b, 0, 3)
	clear(first)
	if !bytes.Equal(b, []byte{2, 'a', 'b'}) {
		t.Errorf("shared with an answer: %x", b)
	}
	clear(b)
	if s != "ab" || !slices.Equal(second, []uint64{2, 'a', 'b'}) {
		t.Errorf("shared: %q, %v", s, second)
	}
}

// P1.6: what is put is taken as it was, whatever stands ahead and behind.
func TestTakenAsPut(t *testing.T) {
	at := len(noise)
	for _, n := range edges() {
		b := slices.Concat(noise, varint.Put(n), noise)
		checkTake(t, b, at, n, at+varint.Size(n), api.OK)
	}
	all := edges()
	b := slices.Concat(noise, varint.All(all...), noise)
	checkAll(t, b, at, len(all), all, len(b)-len(noise), api.OK)
	for _, s := range []string{"", "a", "\x80\x00", string(noise), strings.Repeat("z", 127), strings.Repeat("z", 70000)} {
		b := slices.Concat(noise, varint.Text(s), noise)
		checkText(t, b, at, s, len(b)-len(noise), api.OK)
	}
}

// P1.6: what is taken, put again, is the bytes that were taken.
func TestPutAsTaken(t *testing.T) {
	everyString(func(b []byte) {
		if n, next, e := varint.Take(b, 0); e == api.OK && !bytes.Equal(varint.Put(n), b[:next]) {
			t.Errorf("%x: taken as %d", b, n)
		}
		if s, next, e := varint.TakeText(b, 0); e == api.OK && !bytes.Equal(varint.Text(s), b[:next]) {
			t.Errorf("%x: taken as %q", b, s)
		}
		if l, next, e := varint.TakeAll(b, 0, 2); e == api.OK && !bytes.Equal(varint.All(l...), b[:next]) {
			t.Errorf("%x: taken as %v", b, l)
		}
	})
}

// P1.6: less digits have no more bytes.
func TestSizeRises(t *testing.T) {
	l := edges()
	slices.Sort(l)
	for i, n := range l[1:] {
		if varint.Size(l[i]) > varint.Size(n) {
			t.Errorf("%d has more bytes than %d", l[i], n)
		}
		if varint.Size(n) != len(varint.Put(n)) {
			t.Errorf("Size(%d): %d", n, varint.Size(n))
		}
	}
}
