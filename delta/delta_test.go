package delta_test

import (
	"bytes"
	"encoding/binary"
	"math"
	"slices"
	"strings"
	"testing"

	"chartroom/api"
	"chartroom/delta"
)

const most = 1<<31 - 1

func keep(n int) delta.Edit    { return delta.Edit{Kind: 1, N: n} }
func add(s string) delta.Edit  { return delta.Edit{Kind: 2, Text: s} }
func cut(n int) delta.Edit     { return delta.Edit{Kind: 3, N: n} }
func of(l ...delta.Edit) edits { return l }

type edits []delta.Edit

// isRight is the words of a right edit.
func isRight(x delta.Edit) bool {
	counted := (x.Kind == 1 || x.Kind == 3) && 1 <= x.N && x.N <= most && len(x.Text) == 0
	return counted || x.Kind == 2 && x.N == 0 && len(x.Text) > 0
}

// isNormal is the words of a normal delta.
func isNormal(l edits) bool {
	for i, x := range l {
		if !isRight(x) || i > 0 && (l[i-1].Kind == x.Kind || l[i-1].Kind == 3 && x.Kind == 2) {
			return false
		}
	}
	return true
}

// applied is what l makes of base, byte by byte; false, unless l is a delta of it.
func applied(base string, l edits) (string, bool) {
	var s []byte
	at := 0
	for _, x := range l {
		if !isRight(x) || x.N > len(base)-at {
			return "", false
		}
		s = append(s, x.Text...)
		for range x.N {
			if x.Kind == 1 {
				s = append(s, base[at])
			}
			at++
		}
	}
	return string(s), at == len(base)
}

// normalOf changes two edits beside each other as long as there are two that a normal delta has not so.
func normalOf(l edits) edits {
	l = slices.Clone(l)
	for i := 1; i < len(l); {
		a, b := l[i-1], l[i]
		switch {
		case a.Kind == b.Kind:
			l[i-1].N, l[i-1].Text = a.N+b.N, a.Text+b.Text
			l = slices.Delete(l, i, i+1)
		case a.Kind == 3 && b.Kind == 2:
			l[i-1], l[i] = b, a
		default:
			i++
			continue
		}
		i = max(i-1, 1)
	}
	return l
}

// diffOf is the words of Diff, the longest common beginning and end found by trying all.
func diffOf(a, b string) edits {
	begin, end := 0, 0
	for n := 1; n <= min(len(a), len(b)); n++ {
		if strings.HasPrefix(b, a[:n]) {
			begin = n
		}
	}
	for n := 1; n <= min(len(a), len(b))-begin; n++ {
		if strings.HasSuffix(b, a[len(a)-n:]) {
			end = n
		}
	}
	var l edits
	for _, x := range of(keep(begin), add(b[begin:len(b)-end]), cut(len(a)-end-begin), keep(end)) {
		if isRight(x) {
			l = append(l, x)
		}
	}
	return l
}

// written is the words of what an edit is written as, whether it is right or not.
func written(l edits) []byte {
	var b []byte
	for _, x := range l {
		b = append(b, x.Kind)
		if x.Kind == 2 {
			b = append(binary.AppendUvarint(b, uint64(len(x.Text))), x.Text...)
			continue
		}
		b = binary.AppendUvarint(b, uint64(x.N))
	}
	return b
}

// number is what chapter 1 takes from b, by the library, and what is left of b.
func number(b []byte) (uint64, []byte, api.Errno) {
	n, used := binary.Uvarint(b)
	switch {
	case used > 0 && len(binary.AppendUvarint(nil, n)) == used:
		return n, b[used:], api.OK
	case used == 0 && len(b) < binary.MaxVarintLen64:
		return 0, nil, api.ErrShort
	}
	return 0, nil, api.ErrLong
}

// read is what Parse must answer.
func read(b []byte) (edits, api.Errno) {
	var l edits
	for len(b) > 0 {
		kind := b[0]
		if kind < 1 || kind > 3 {
			return nil, api.ErrKind
		}
		n, left, e := number(b[1:])
		if e == api.OK && kind == 2 && n > uint64(len(left)) {
			e = api.ErrShort
		}
		if e != api.OK {
			return nil, e
		}
		if n == 0 || kind != 2 && n > most {
			return nil, api.ErrArg
		}
		x := delta.Edit{Kind: kind, N: int(n)}
		if kind == 2 {
			x = add(string(left[:n]))
			left = left[n:]
		}
		l, b = append(l, x), left
	}
	return l, api.OK
}

// rights are right edits on both sides of each edge.
func rights() edits {
	var l edits
	for _, n := range []int{1, 2, 5, 127, 128, 300, 16383, 16384, 1<<31 - 2, most} {
		l = append(l, keep(n), cut(n))
	}
	for _, many := range []int{1, 127, 128, 300, 70000} {
		l = append(l, add(strings.Repeat("z", many)))
	}
	return append(l, add("\x00"), add("\xFF\x80"), add("é"), add("\x01\x05"))
}

// wrongs are edits that are not right, for each reason.
func wrongs() edits {
	l := of(delta.Edit{}, keep(0), cut(0), add(""))
	for _, n := range []int{math.MinInt, -1 << 32, -most, -5, -1, 1 << 31, 1<<31 + 1, 1 << 32, 1<<32 + 1, math.MaxInt - 1, math.MaxInt} {
		l = append(l, keep(n), cut(n), delta.Edit{Kind: 2, N: n, Text: "a"}, delta.Edit{Kind: 2, N: n})
	}
	l = append(l, delta.Edit{Kind: 2, N: 1, Text: "a"}, delta.Edit{Kind: 2, N: 1})
	for _, kind := range []uint8{1, 3} {
		l = append(l, delta.Edit{Kind: kind, N: 1, Text: "a"}, delta.Edit{Kind: kind, Text: "a"}, delta.Edit{Kind: kind, N: 1, Text: "\x00"})
	}
	for kind := range 256 {
		if kind < 1 || kind > 3 {
			l = append(l, delta.Edit{Kind: uint8(kind), N: 1}, delta.Edit{Kind: uint8(kind), Text: "a"})
		}
	}
	return l
}

// each list of at most many of these.
func each[T any](of []T, many int, f func(l []T)) {
	var grow func(l []T, left int)
	grow = func(l []T, left int) {
		f(l)
		if left == 0 {
			return
		}
		for _, x := range of {
			grow(append(l, x), left-1)
		}
	}
	grow(make([]T, 0, many), many)
}

// letters are the texts of at most many of these bytes.
func letters(from string, many int) []string {
	var l []string
	each([]byte(from), many, func(b []byte) { l = append(l, string(b)) })
	return l
}

func checkApply(t *testing.T, base string, l edits, want string, e api.Errno) {
	t.Helper()
	if s, f := delta.Apply(base, l...); s != want || f != e {
		t.Errorf("Apply(%.40q, %.100v): %.40q, %d; want %.40q, %d", base, l, s, f, want, e)
	}
}

func checkSizes(t *testing.T, l edits, from, to int) {
	t.Helper()
	if m, n := delta.Sizes(l...); m != from || n != to {
		t.Errorf("Sizes(%.100v): %d, %d; want %d, %d", l, m, n, from, to)
	}
}

func checkNormal(t *testing.T, l, want edits, e api.Errno) {
	t.Helper()
	if m, f := delta.Normal(l...); !slices.Equal(m, want) || f != e {
		t.Errorf("Normal(%.100v): %.100v, %d; want %.100v, %d", l, m, f, want, e)
	}
}

func checkPut(t *testing.T, l edits, want []byte, e api.Errno) {
	t.Helper()
	if b, f := delta.Put(l...); !bytes.Equal(b, want) || f != e {
		t.Errorf("Put(%.100v): %.40x, %d; want %.40x, %d", l, b, f, want, e)
	}
}

func checkParse(t *testing.T, b []byte, want edits, e api.Errno) {
	t.Helper()
	if l, f := delta.Parse(b); !slices.Equal(l, want) || f != e {
		t.Errorf("Parse(%.40x): %.100v, %d; want %.100v, %d", b, l, f, want, e)
	}
}

// P5.1
func TestRight(t *testing.T) {
	if delta.Retain != 1 || delta.Insert != 2 || delta.Delete != 3 {
		t.Error("the kinds' numbers")
	}
	if !delta.Right() || !delta.Right([]delta.Edit{}...) || !delta.Right(rights()...) {
		t.Error("right ones are not")
	}
	for _, x := range rights() {
		if !isRight(x) || !delta.Right(x) {
			t.Errorf("%.60v is not right", x)
		}
	}
	for _, x := range wrongs() {
		if isRight(x) || delta.Right(x) {
			t.Errorf("%v is right", x)
		}
		for at := range 4 { // wherever it stands
			if l := slices.Insert(of(keep(1), add("a"), cut(2)), at, x); delta.Right(l...) {
				t.Errorf("%v are right", l)
			}
		}
	}
}

// P5.1
func TestSizes(t *testing.T) {
	checkSizes(t, nil, 0, 0)
	checkSizes(t, of(), 0, 0)
	checkSizes(t, of(keep(5)), 5, 5)
	checkSizes(t, of(cut(5)), 5, 0)
	checkSizes(t, of(add("abc")), 0, 3)
	checkSizes(t, of(add("é")), 0, 2)
	checkSizes(t, of(keep(1), cut(3), add("ipp"), keep(1)), 5, 5)
	checkSizes(t, of(keep(most), keep(most), cut(most), add("a")), 3*most, 2*most+1)
	from, to := 0, 0
	for _, x := range rights() {
		from += x.N
		if x.Kind != 3 {
			to += x.N
		}
		to += len(x.Text)
	}
	checkSizes(t, rights(), from, to)
}

// P5.1: what is not right counts as 0, wherever it stands.
func TestSizesOfWrong(t *testing.T) {
	checkSizes(t, wrongs(), 0, 0)
	for _, x := range wrongs() {
		checkSizes(t, of(x), 0, 0)
		for at := range 4 {
			checkSizes(t, slices.Insert(of(keep(10), add("abc"), cut(200)), at, x), 210, 13)
		}
	}
}

// P5.2
func TestApply(t *testing.T) {
	checkApply(t, "hello", of(keep(1), cut(3), add("ipp"), keep(1)), "hippo", api.OK)
	checkApply(t, "hell", of(keep(1), cut(3), add("ipp"), keep(1)), "", api.ErrDelta)
	checkApply(t, "hello", of(keep(1), cut(3), add("ipp")), "", api.ErrDelta)
	checkApply(t, "", nil, "", api.OK)
	checkApply(t, "", of(), "", api.OK)
	checkApply(t, "a", nil, "", api.ErrDelta)
	checkApply(t, "", of(keep(1)), "", api.ErrDelta)
	checkApply(t, "", of(cut(1)), "", api.ErrDelta)
	checkApply(t, "", of(add("a"), add("b"), add("\x00\xFF")), "ab\x00\xFF", api.OK)
	checkApply(t, "é", of(keep(1), add("-"), keep(1)), "\xC3-\xA9", api.OK)
	checkApply(t, "abcdef", of(cut(1), add("X"), cut(1), keep(2), add("Y"), add("Z"), keep(1), keep(1)), "XcdYZef", api.OK)
	long := strings.Repeat("0123456789", 10000)
	checkApply(t, long, of(keep(50000), add(long), cut(49999), keep(1)), long[:50000]+long+"9", api.OK)
	checkApply(t, long, of(keep(50000), add(long), cut(49999)), "", api.ErrDelta)
	checkApply(t, long, of(keep(50000), add(long), cut(49999), keep(2)), "", api.ErrDelta)
}

// P5.2: all lists of a few edits, of texts that are as long, shorter, and longer.
func TestApplyAll(t *testing.T) {
	parts := of(keep(1), keep(2), add("x"), add("yz"), cut(1), cut(2), keep(0), add(""), cut(-1), delta.Edit{Kind: 4, N: 1})
	each(parts, 4, func(l []delta.Edit) {
		for _, base := range []string{"", "a", "ab", "abc", "abcd", "abcde"} {
			if want, ok := applied(base, l); ok {
				checkApply(t, base, l, want, api.OK)
			} else {
				checkApply(t, base, l, "", api.ErrDelta)
			}
		}
	})
}

// P5.2: one that is not right, whether it would have counted for bytes of the text or not; huge ones, which together wrap round.
func TestApplyWrong(t *testing.T) {
	for _, x := range wrongs() {
		for at := range 4 {
			l := slices.Insert(of(keep(2), add("a"), cut(2)), at, x)
			for _, base := range []string{"", "abcd", "abcde", "abc"} {
				checkApply(t, base, l, "", api.ErrDelta)
			}
		}
	}
	for _, l := range []edits{
		of(keep(math.MaxInt), keep(math.MaxInt), keep(6)), of(cut(math.MinInt), cut(math.MinInt), keep(4)),
		of(keep(5), keep(-1)), of(keep(-1), keep(5)), of(cut(5), keep(-1)), of(keep(most)), of(cut(most)), of(keep(4), keep(most)),
		of(keep(most), keep(most), keep(6)), of(keep(most), keep(most), cut(6)), of(keep(1<<32 + 4)), of(keep(1<<32), keep(4)),
	} {
		checkApply(t, "abcd", l, "", api.ErrDelta)
	}
}

// P5.3
func TestNormal(t *testing.T) {
	checkNormal(t, nil, nil, api.OK)
	checkNormal(t, of(), nil, api.OK)
	checkNormal(t, of(keep(1), cut(1), add("a"), keep(2), keep(1)), of(keep(1), add("a"), cut(1), keep(3)), api.OK)
	checkNormal(t, of(cut(1), add("a"), cut(2), add("bc"), cut(3), add("d")), of(add("abcd"), cut(6)), api.OK)
	checkNormal(t, of(add("a"), keep(1), add("b"), keep(1), cut(1), keep(1), add("c")), of(add("a"), keep(1), add("b"), keep(1), cut(1), keep(1), add("c")), api.OK)
	checkNormal(t, of(cut(1), keep(1), add("a")), of(cut(1), keep(1), add("a")), api.OK)
	checkNormal(t, of(add("\x00"), add("\xC3"), add("\xA9")), of(add("\x00é")), api.OK)
	for _, x := range rights() {
		checkNormal(t, of(x), of(x), api.OK)
	}
}

// P5.3: all lists of a few edits.
func TestNormalAll(t *testing.T) {
	each(of(keep(1), keep(5), add("x"), add("yz"), cut(1), cut(7)), 6, func(l []delta.Edit) {
		checkNormal(t, l, normalOf(l), api.OK)
	})
}

// P5.3: as many as a text's bytes, in one run, and in runs of their own.
func TestNormalMany(t *testing.T) {
	const many = 1 << 18
	var one, runs edits
	for range many {
		one = append(one, cut(2), add("a"), add("b"))
		runs = append(runs, cut(1), add("a"), keep(3))
	}
	checkNormal(t, one, of(add(strings.Repeat("ab", many)), cut(2*many)), api.OK)
	checkNormal(t, runs, slices.Repeat(of(add("a"), cut(1), keep(3)), many), api.OK)
}

// P5.3
func TestNormalLimit(t *testing.T) {
	for _, x := range []func(int) delta.Edit{keep, cut} {
		checkNormal(t, of(x(most-1), x(1)), of(x(most)), api.OK)
		checkNormal(t, of(x(1<<30), x(1<<30-1)), of(x(most)), api.OK)
		checkNormal(t, of(x(most), x(1)), nil, api.ErrLimit)
		checkNormal(t, of(x(1), x(most)), nil, api.ErrLimit)
		checkNormal(t, of(x(1<<30), x(1<<30)), nil, api.ErrLimit)
		checkNormal(t, of(x(most), x(most), x(3)), nil, api.ErrLimit) // 2^32 + 1
		checkNormal(t, of(add("a"), x(most), x(1), add("b")), nil, api.ErrLimit)
	}
	checkNormal(t, of(cut(most), add("a"), cut(1)), nil, api.ErrLimit)
	checkNormal(t, of(keep(1), cut(1), add("a"), cut(most-1), keep(1)), of(keep(1), add("a"), cut(most), keep(1)), api.OK)
	checkNormal(t, of(keep(most), add("a"), keep(1), cut(most), keep(most)), of(keep(most), add("a"), keep(1), cut(most), keep(most)), api.OK)
	checkNormal(t, of(cut(most), keep(most), cut(most)), of(cut(most), keep(most), cut(most)), api.OK)
	checkNormal(t, of(keep(1), cut(1), keep(most), keep(1), cut(1), keep(1)), nil, api.ErrLimit)
}

// P5.3: ErrArg comes ahead of ErrLimit, wherever the wrong one stands.
func TestNormalWrong(t *testing.T) {
	for _, x := range wrongs() {
		checkNormal(t, of(x), nil, api.ErrArg)
		for at := range 4 {
			checkNormal(t, slices.Insert(of(keep(1), add("a"), cut(2)), at, x), nil, api.ErrArg)
		}
		checkNormal(t, of(keep(most), keep(1), x), nil, api.ErrArg)
		checkNormal(t, of(x, cut(most), cut(1)), nil, api.ErrArg)
	}
}

// P5.4
func TestDiff(t *testing.T) {
	long := strings.Repeat("0123456789", 7000)
	for _, x := range []struct {
		a, b string
		want edits
	}{
		{"hello", "hippo", of(keep(1), add("ipp"), cut(3), keep(1))}, {"aa", "aaa", of(keep(2), add("a"))}, {"aaa", "aa", of(keep(2), cut(1))},
		{"", "", nil}, {"", "ab", of(add("ab"))}, {"ab", "", of(cut(2))}, {"abc", "abc", of(keep(3))}, {"ab", "cd", of(add("cd"), cut(2))},
		{"abcabc", "abc", of(keep(3), cut(3))}, {"abc", "abcabc", of(keep(3), add("abc"))}, {"xab", "ab", of(cut(1), keep(2))}, {"ab", "xab", of(add("x"), keep(2))},
		{"abab", "ab", of(keep(2), cut(2))}, {"abba", "aba", of(keep(2), cut(1), keep(1))}, {"aXa", "aa", of(keep(1), cut(1), keep(1))}, {"aa", "aXa", of(keep(1), add("X"), keep(1))},
		{"é", "è", of(keep(1), add("\xA8"), cut(1))}, {"\x00\xFF", "\x00\x00\xFF", of(keep(1), add("\x00"), keep(1))},
		{long, long, of(keep(70000))}, {long, long[:30000] + "x" + long[30001:], of(keep(30000), add("x"), cut(1), keep(39999))}, {long, "x" + long, of(add("x"), keep(70000))},
	} {
		if l := delta.Diff(x.a, x.b); !slices.Equal(l, x.want) {
			t.Errorf("Diff(%.40q, %.40q): %v; want %v", x.a, x.b, l, x.want)
		}
	}
}

// P5.4, P5.7: of all short texts; Diff makes b of a, and is normal.
func TestDiffAll(t *testing.T) {
	for _, all := range [][]string{letters("ab", 6), letters("a\x00\xFF", 4)} {
		for _, a := range all {
			for _, b := range all {
				l := delta.Diff(a, b)
				if !slices.Equal(l, diffOf(a, b)) || !isNormal(l) {
					t.Errorf("Diff(%q, %q): %v; want %v", a, b, l, diffOf(a, b))
				}
				if len(l) == 0 && a+b != "" {
					t.Errorf("Diff(%q, %q): none", a, b)
				}
				checkApply(t, a, l, b, api.OK)
			}
		}
	}
}

// P5.5
func TestPut(t *testing.T) {
	checkPut(t, nil, nil, api.OK)
	checkPut(t, of(), nil, api.OK)
	checkPut(t, of(keep(5), add("ab")), []byte{1, 5, 2, 2, 'a', 'b'}, api.OK)
	checkPut(t, of(cut(300), keep(1), cut(1), add("\x00")), []byte{3, 0xAC, 2, 1, 1, 3, 1, 2, 1, 0}, api.OK)
	checkPut(t, of(cut(most)), []byte{3, 0xFF, 0xFF, 0xFF, 0xFF, 7}, api.OK)
	checkPut(t, rights(), written(rights()), api.OK)
	for _, x := range rights() {
		checkPut(t, of(x), written(of(x)), api.OK)
		checkPut(t, of(x, add("b"), x), written(of(x, add("b"), x)), api.OK) // as they are, not made normal
	}
	for _, x := range wrongs() {
		checkPut(t, of(x), nil, api.ErrArg)
		for at := range 4 {
			checkPut(t, slices.Insert(of(keep(1), add("a"), cut(2)), at, x), nil, api.ErrArg)
		}
	}
}

// P5.5
func TestParse(t *testing.T) {
	checkParse(t, nil, nil, api.OK)
	checkParse(t, []byte{}, nil, api.OK)
	checkParse(t, []byte{1, 5, 2, 2, 'a', 'b'}, of(keep(5), add("ab")), api.OK)
	checkParse(t, []byte{3, 0xFF, 0xFF, 0xFF, 0xFF, 7, 3, 1}, of(cut(most), cut(1)), api.OK)
	for kind := range 256 {
		b := []byte{byte(kind)}
		if 1 <= kind && kind <= 3 {
			checkParse(t, b, nil, api.ErrShort)
			continue
		}
		for _, behind := range []string{"", "\x01", "\x00", "\x80", "\x80\x00", "\x02ab"} {
			checkParse(t, append(b, behind...), nil, api.ErrKind)
			checkParse(t, slices.Concat([]byte{2, 1, 'a'}, b, []byte(behind)), nil, api.ErrKind)
		}
	}
	for _, kind := range []byte{1, 2, 3} {
		for _, x := range []struct {
			behind string
			e      api.Errno
		}{
			{"", api.ErrShort}, {"\x80", api.ErrShort}, {"\xFF\xFF\xFF", api.ErrShort}, {"\x80\x00", api.ErrLong}, {"\x81\x80\x00", api.ErrLong},
			{strings.Repeat("\x80", 10), api.ErrLong}, {strings.Repeat("\xFF", 9) + "\x02", api.ErrLong}, {"\x00", api.ErrArg}, {"\x00\x00", api.ErrArg}, {"\x00\x80\x00", api.ErrArg},
		} {
			checkParse(t, append([]byte{kind}, x.behind...), nil, x.e)
			checkParse(t, append([]byte{3, 1, kind}, x.behind...), nil, x.e)
		}
	}
	// What stands in its memory behind b is none of b's.
	checkParse(t, []byte{1, 5}[:1], nil, api.ErrShort)
	checkParse(t, []byte{2, 2, 'a', 'b'}[:3], nil, api.ErrShort)
}

// P5.5: numbers at the edge, and far behind it, of which an int could hold another one.
func TestParseGreat(t *testing.T) {
	for _, n := range []uint64{1 << 31, 1<<31 + 1, 1<<32 - 1, 1 << 32, 1<<32 + 1, 1<<62 + 5, 1<<63 - 1, 1 << 63, 1<<63 + 1, 1<<64 - most, 1<<64 - 1} {
		for _, kind := range []byte{1, 3} {
			checkParse(t, binary.AppendUvarint([]byte{kind}, n), nil, api.ErrArg)
			checkParse(t, append(binary.AppendUvarint([]byte{2, 1, 'a', kind}, n), 9), nil, api.ErrArg)
		}
		checkParse(t, append(binary.AppendUvarint([]byte{2}, n), "abc"...), nil, api.ErrShort)
	}
	for _, n := range []uint64{4, 5, 127, 128, 300} {
		checkParse(t, append(binary.AppendUvarint([]byte{1, 1, 2}, n), "abc"...), nil, api.ErrShort)
	}
}

// P5.5: the first error counts; what stands behind it is not looked at.
func TestParseFirst(t *testing.T) {
	wrong := map[string]api.Errno{"\x01\x00": api.ErrArg, "\x02\x00": api.ErrArg, "\x03\x80\x80\x80\x80\x08": api.ErrArg, "\x00": api.ErrKind, "\x04\x01": api.ErrKind, "\x01\x80\x00": api.ErrLong, "\x02\x80\x00": api.ErrLong}
	for first, e := range wrong {
		for _, ahead := range []string{"", "\x01\x05", "\x02\x02ab\x03\x01"} {
			checkParse(t, []byte(ahead+first), nil, e)
			for second := range wrong {
				checkParse(t, []byte(ahead+first+second), nil, e)
			}
			checkParse(t, []byte(ahead+first+"\x01"), nil, e)
		}
	}
}

// P5.5, P5.7: any bytes are edits or none, as the words say; and edits are those bytes.
func TestAnyBytes(t *testing.T) {
	each([]byte{0, 1, 2, 3, 4, 0x7F, 0x80, 0xFF}, 6, func(b []byte) {
		l, e := read(b)
		checkParse(t, b, l, e)
		if e == api.OK {
			checkPut(t, l, b, api.OK)
		}
	})
}

// P5.6: the list that is handed in is not changed, what lies behind its length included.
func TestOnlyRead(t *testing.T) {
	whole := of(cut(1), add("a"), cut(2), keep(1), keep(2), add("b"), add("c"), keep(0), keep(3))
	was := slices.Clone(whole)
	for many := range len(whole) + 1 {
		l := whole[:many]
		delta.Right(l...)
		delta.Sizes(l...)
		delta.Apply("abcdef", l...)
		delta.Normal(l...)
		delta.Put(l...)
		if !slices.Equal(whole, was) {
			t.Fatalf("changed: %v", whole)
		}
	}
	b := written(whole)
	bytesWere := slices.Clone(b)
	for many := range len(b) + 1 {
		delta.Parse(b[:many])
	}
	if !bytes.Equal(b, bytesWere) {
		t.Errorf("changed: %x", b)
	}
}

// P5.6: lists that are answered stay as they are, whatever is done to what was handed in, and to other answers.
func TestNewMemory(t *testing.T) {
	in := of(keep(1), add("ab"), cut(2))
	b := written(in)
	for _, x := range []func() edits{
		func() edits { l, _ := delta.Normal(in...); return l },
		func() edits { l, _ := delta.Parse(b); return l },
		func() edits { return delta.Diff("xyz", "xab") },
	} {
		first, second := x(), x()
		clear(second[:cap(second)])
		if !slices.Equal(first, in) || !slices.Equal(x(), in) || !bytes.Equal(b, written(in)) {
			t.Errorf("shared: %v", first)
		}
	}
	fromList, _ := delta.Normal(in...)
	fromBytes, _ := delta.Parse(b)
	put, _ := delta.Put(in...)
	other, _ := delta.Put(in...)
	clear(other[:cap(other)])
	clear(in)
	clear(b)
	want := of(keep(1), add("ab"), cut(2))
	if !slices.Equal(fromList, want) || !slices.Equal(fromBytes, want) || !bytes.Equal(put, written(want)) {
		t.Errorf("shared: %v, %v, %x", fromList, fromBytes, put)
	}
}

// P5.7: what is written is parsed as it was.
func TestParsedAsPut(t *testing.T) {
	for _, l := range []edits{rights(), slices.Concat(rights(), rights())} {
		b, _ := delta.Put(l...)
		checkParse(t, b, l, api.OK)
	}
	each(of(keep(1), keep(most), add("x"), add("\x01\x02\x03"), cut(1), cut(300)), 5, func(l []delta.Edit) {
		b, _ := delta.Put(l...)
		checkParse(t, b, l, api.OK)
	})
}

// P5.7: a normal delta does what the other one does, and is no longer; of a normal one it is the same; a delta's text is of the size that is told.
func TestWhatFollows(t *testing.T) {
	const base = "abcdefghijkl"
	each(of(keep(1), keep(2), add("x"), add("yz"), cut(1), cut(2)), 6, func(l []delta.Edit) {
		from, to := delta.Sizes(l...)
		want, _ := delta.Apply(base[:from], l...)
		normal, e := delta.Normal(l...)
		if e != api.OK || !isNormal(normal) || len(normal) > len(l) || len(want) != to {
			t.Errorf("Normal(%v): %v, %d; %d bytes of %d", l, normal, e, len(want), to)
		}
		checkApply(t, base[:from], normal, want, api.OK)
		checkSizes(t, normal, from, to)
		checkNormal(t, normal, normal, api.OK)
		if isNormal(l) {
			checkNormal(t, l, l, api.OK)
		}
	})
}
