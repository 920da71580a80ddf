package extent_test

import (
	"bytes"
	"math/rand"
	"slices"
	"testing"

	"chartroom/extent"
)

// part is a part of these bytes: durable, if there is a '!' behind them.
func part(s string) extent.Part {
	b, durable := bytes.CutSuffix([]byte(s), []byte("!"))
	return extent.Part{Bytes: b, Durable: durable}
}

// hand is a file made by hand, of parts as part has them; empty ones stay.
func hand(l ...string) extent.File {
	var f extent.File
	for _, s := range l {
		f.Parts = append(f.Parts, part(s))
	}
	return f
}

// apart is the same file in memory of its own.
func apart(f extent.File) extent.File {
	var g extent.File
	for _, p := range f.Parts {
		g.Parts = append(g.Parts, extent.Part{Bytes: bytes.Clone(p.Bytes), Durable: p.Durable})
	}
	return g
}

// full is the parts that are not empty.
func full(f extent.File) []extent.Part {
	return slices.DeleteFunc(apart(f).Parts, func(p extent.Part) bool { return len(p.Bytes) == 0 })
}

func content(f extent.File) (b []byte) {
	for _, p := range f.Parts {
		b = append(b, p.Bytes...)
	}
	return b
}

func sameParts(a, b []extent.Part) bool {
	return slices.EqualFunc(a, b, func(x, y extent.Part) bool {
		return bytes.Equal(x.Bytes, y.Bytes) && x.Durable == y.Durable
	})
}

// check holds a file against the parts that it should have, and what its calls answer against these.
func check(t *testing.T, what string, got extent.File, want ...extent.Part) {
	t.Helper()
	if !sameParts(got.Parts, want) {
		t.Fatalf("%s: %#v; want %#v", what, got.Parts, want)
	}
	checkAnswers(t, what, got)
}

func checkAnswers(t *testing.T, what string, f extent.File) {
	t.Helper()
	want, volatile := content(f), 0
	for _, p := range full(f) {
		if !p.Durable {
			volatile++
		}
	}
	if got := f.Bytes(); !bytes.Equal(got, want) {
		t.Fatalf("%s: Bytes %q; want %q", what, got, want)
	}
	if got := f.Len(); got != len(want) {
		t.Fatalf("%s: Len %d; want %d", what, got, len(want))
	}
	if got := f.Volatile(); got != volatile {
		t.Fatalf("%s: Volatile %d; want %d", what, got, volatile)
	}
}

// failed is what a power failure leaves, by the chapter's words: part by part.
func failed(f extent.File, keep []bool) (left []extent.Part) {
	parts := full(f)
	stays := make([]bool, len(parts))
	at := 0
	for i, p := range parts {
		if p.Durable {
			stays[i] = true
			continue
		}
		stays[i] = at < len(keep) && keep[at]
		at++
	}
	for i, p := range parts {
		switch {
		case stays[i]:
			left = append(left, extent.Part{Bytes: p.Bytes, Durable: true})
		case slices.Contains(stays[i:], true):
			left = append(left, extent.Part{Bytes: make([]byte, len(p.Bytes)), Durable: true})
		}
	}
	return left
}

// each goes over all lists of up to most of l's items.
func each[T any](most int, l []T, do func([]T)) {
	var grow func([]T)
	grow = func(have []T) {
		do(slices.Clone(have))
		if len(have) == most {
			return
		}
		for _, x := range l {
			grow(append(slices.Clone(have), x))
		}
	}
	grow(nil)
}

// eachFile goes over all files of up to most parts: durable, volatile, and empty of both sorts; each part's bytes are its own.
func eachFile(most int, do func(extent.File)) {
	each(most, []string{"!", "", "x", "x!"}, func(l []string) {
		f := hand(l...)
		for i, p := range f.Parts {
			if len(p.Bytes) > 0 {
				f.Parts[i].Bytes = bytes.Repeat([]byte{byte('a' + i)}, 1+i%3)
			}
		}
		do(f)
	})
}

var both = []bool{false, true}

// random is a file of up to so many parts; some have noughts, some are empty.
func random(r *rand.Rand, most int) extent.File {
	var f extent.File
	for range r.Intn(most + 1) {
		b := make([]byte, r.Intn(4))
		for i := range b {
			b[i] = byte(r.Intn(4))
		}
		f.Parts = append(f.Parts, extent.Part{Bytes: b, Durable: r.Intn(3) == 0})
	}
	return f
}

func told(r *rand.Rand, most int) []bool {
	keep := make([]bool, r.Intn(most+1))
	for i := range keep {
		keep[i] = r.Intn(2) == 0
	}
	return keep
}

// P7.1
func TestOf(t *testing.T) {
	long := bytes.Repeat([]byte("0123456789"), 20000)
	check(t, "none", extent.Of())
	check(t, "no list", extent.Of([][]byte(nil)...))
	check(t, "empty ones", extent.Of(nil, []byte{}, nil))
	check(t, "one", extent.Of([]byte("ab")), part("ab!"))
	check(t, "same ones", extent.Of([]byte("a"), []byte("a")), part("a!"), part("a!"))
	check(t, "empty ones between", extent.Of(nil, []byte("ab"), []byte{}, []byte("c"), nil), part("ab!"), part("c!"))
	check(t, "noughts", extent.Of([]byte{0}, []byte{0, 0}), part("\x00!"), part("\x00\x00!"))
	check(t, "long", extent.Of(long, []byte("x"), long), extent.Part{Bytes: long, Durable: true}, part("x!"), extent.Part{Bytes: long, Durable: true})
}

// P7.1: a volatile part more, behind all; those that are there stay as they are.
func TestAppend(t *testing.T) {
	var f extent.File
	f.Append([]byte("a"))
	check(t, "to nothing", f, part("a"))
	f.Append([]byte("a"))
	check(t, "the same again", f, part("a"), part("a"))
	f.Append([]byte{0})
	check(t, "a nought", f, part("a"), part("a"), part("\x00"))
	f.Sync()
	f.Append([]byte("bcd"))
	check(t, "behind durable ones", f, part("a!"), part("a!"), part("\x00!"), part("bcd"))
	f = extent.Of([]byte("ab"))
	f.Append([]byte("cd"))
	f.Append([]byte("ef"))
	check(t, "example", f, part("ab!"), part("cd"), part("ef"))
	long := bytes.Repeat([]byte("x"), 100000)
	f.Append(long)
	check(t, "long", f, part("ab!"), part("cd"), part("ef"), extent.Part{Bytes: long})
}

// P7.1: of no bytes nothing.
func TestAppendNothing(t *testing.T) {
	for _, none := range [][]byte{nil, {}, []byte("abc")[:0]} {
		var f extent.File
		f.Append(none)
		check(t, "to nothing", f)
		f = hand("a!", "b")
		f.Append(none)
		check(t, "to parts", f, part("a!"), part("b"))
	}
}

// P7.1: it is synced, its parts stay parted.
func TestSync(t *testing.T) {
	var f extent.File
	f.Sync()
	check(t, "nothing", f)
	f = hand("ab", "c!", "d", "d")
	f.Sync()
	check(t, "parts", f, part("ab!"), part("c!"), part("d!"), part("d!"))
	f.Sync()
	check(t, "again", f, part("ab!"), part("c!"), part("d!"), part("d!"))
	f.Append([]byte("e"))
	f.Sync()
	check(t, "one more", f, part("ab!"), part("c!"), part("d!"), part("d!"), part("e!"))
}

// What is said ahead of the promises: parts that are empty are left out, also if nothing else is changed.
func TestEmptyPartsAreLeftOut(t *testing.T) {
	eachFile(5, func(f extent.File) {
		durable := full(f)
		for i := range durable {
			durable[i].Durable = true
		}
		g := apart(f)
		g.Append([]byte("xyz"))
		check(t, "Append", g, append(full(f), part("xyz"))...)
		g = apart(f)
		g.Append(nil)
		check(t, "Append of nothing", g, full(f)...)
		g = apart(f)
		g.Sync()
		check(t, "Sync", g, durable...)
		g = apart(f)
		g.Fail(true, true, true, true, true)
		check(t, "Fail", g, durable...)
	})
}

// What is said ahead of the promises: of a nil file they do nothing.
func TestNilFile(t *testing.T) {
	var f *extent.File
	f.Append(nil)
	f.Append([]byte("a"))
	f.Sync()
	f.Fail()
	f.Fail(true, false)
	if f != nil {
		t.Error("it is there")
	}
}

// P7.2: content, its length, and how many volatile parts there are, of files as calls leave them.
func TestAnswersOfFilesThatCallsMade(t *testing.T) {
	f := extent.Of([]byte("ab"), nil, []byte("c"))
	for _, x := range []struct {
		more     string
		want     string
		volatile int
	}{{"", "abc", 0}, {"de", "abcde", 1}, {"\x00", "abcde\x00", 2}, {"", "abcde\x00", 2}, {"f", "abcde\x00f", 3}} {
		f.Append([]byte(x.more))
		if string(f.Bytes()) != x.want || f.Len() != len(x.want) || f.Volatile() != x.volatile {
			t.Fatalf("%q: %q, %d, %d; want %q, %d", x.more, f.Bytes(), f.Len(), f.Volatile(), x.want, x.volatile)
		}
	}
	f.Sync()
	if string(f.Bytes()) != "abcde\x00f" || f.Len() != 7 || f.Volatile() != 0 {
		t.Fatalf("synced: %q, %d, %d", f.Bytes(), f.Len(), f.Volatile())
	}
}

// P7.2: of files made by hand, whose empty parts are of no account.
func TestAnswersOfFilesMadeByHand(t *testing.T) {
	for _, x := range []struct {
		f        extent.File
		want     string
		volatile int
	}{
		{extent.File{}, "", 0},
		{extent.File{Parts: []extent.Part{}}, "", 0},
		{hand("", "!", ""), "", 0},
		{hand("a"), "a", 1},
		{hand("a!"), "a", 0},
		{hand("", "ab", "!", "cd!", "", "ef", ""), "abcdef", 2},
		{hand("a", "a", "a"), "aaa", 3},
	} {
		if string(x.f.Bytes()) != x.want || x.f.Len() != len(x.want) || x.f.Volatile() != x.volatile {
			t.Fatalf("%#v: %q, %d, %d", x.f, x.f.Bytes(), x.f.Len(), x.f.Volatile())
		}
	}
	eachFile(5, func(f extent.File) { checkAnswers(t, "by hand", f) })
}

// P7.3: the chapter's examples, and what is told beyond, or not.
func TestFail(t *testing.T) {
	for _, x := range []struct {
		keep []bool
		want []string
	}{
		{nil, []string{"ab!"}},
		{[]bool{}, []string{"ab!"}},
		{[]bool{false}, []string{"ab!"}},
		{[]bool{true}, []string{"ab!", "cd!"}},
		{[]bool{true, false}, []string{"ab!", "cd!"}},
		{[]bool{false, false}, []string{"ab!"}},
		{[]bool{false, true}, []string{"ab!", "\x00\x00!", "ef!"}},
		{[]bool{true, true}, []string{"ab!", "cd!", "ef!"}},
		{[]bool{false, false, true}, []string{"ab!"}},
		{[]bool{true, false, true, true}, []string{"ab!", "cd!"}},
	} {
		f := extent.Of([]byte("ab"))
		f.Append([]byte("cd"))
		f.Append([]byte("ef"))
		f.Fail(x.keep...)
		check(t, "Fail", f, hand(x.want...).Parts...)
	}
	f := hand("ab!", "cd", "ef")
	f.Sync()
	f.Fail()
	check(t, "synced", f, part("ab!"), part("cd!"), part("ef!"))
}

// P7.3: what is lost ahead of what stays turns into noughts, whatever it is that stays, and wherever.
func TestFailLeavesNoughtsAheadOfWhatStays(t *testing.T) {
	for _, x := range []struct {
		f    extent.File
		keep []bool
		want []string
	}{
		{hand("abc", "d!"), nil, []string{"\x00\x00\x00!", "d!"}},
		{hand("a", "bc", "d!"), []bool{false, false}, []string{"\x00!", "\x00\x00!", "d!"}},
		{hand("a", "bc", "d!"), []bool{true}, []string{"a!", "\x00\x00!", "d!"}},
		{hand("a", "b", "c"), []bool{false, false, true}, []string{"\x00!", "\x00!", "c!"}},
		{hand("a", "b", "c"), []bool{false, true}, []string{"\x00!", "b!"}},
		{hand("a", "b!", "c", "d!", "e"), nil, []string{"\x00!", "b!", "\x00!", "d!"}},
		{hand("a", "b!", "c", "d!", "e"), []bool{false, true}, []string{"\x00!", "b!", "c!", "d!"}},
		{hand("a", "b!", "c", "d!", "e"), []bool{false, false, true}, []string{"\x00!", "b!", "\x00!", "d!", "e!"}},
		{hand("a", "\x00"), []bool{false, true}, []string{"\x00!", "\x00!"}},
		{hand("a"), []bool{false, true}, nil},
		{hand("a", "b", "c"), nil, nil},
		{hand(), []bool{true}, nil},
	} {
		f := apart(x.f)
		f.Fail(x.keep...)
		check(t, "Fail", f, hand(x.want...).Parts...)
	}
}

// P7.3: keep tells of the volatile parts alone, and not of empty ones.
func TestFailCountsVolatilePartsThatAreNotEmpty(t *testing.T) {
	f := hand("!", "", "a!", "", "b", "!", "c!", "", "d", "")
	f.Fail(false, true)
	check(t, "the second one stays", f, part("a!"), part("\x00!"), part("c!"), part("d!"))
	f = hand("", "a", "", "b")
	f.Fail(true)
	check(t, "the first one stays", f, part("a!"))
	f = hand("a!", "", "")
	f.Fail(true, true)
	check(t, "none is volatile", f, part("a!"))
}

// P7.3: all small files, whatever is told.
func TestFailOfSmallFiles(t *testing.T) {
	eachFile(4, func(f extent.File) {
		each(5, both, func(keep []bool) {
			g := apart(f)
			g.Fail(keep...)
			check(t, "Fail", g, failed(f, keep)...)
		})
	})
}

// P7.1 to P7.3: calls in any order.
func TestCallsInAnyOrder(t *testing.T) {
	r := rand.New(rand.NewSource(7))
	for range 300 {
		f := random(r, 5)
		want := apart(f)
		for range 40 {
			switch r.Intn(5) {
			case 0:
				f.Sync()
				want = apart(extent.File{Parts: full(want)})
				for i := range want.Parts {
					want.Parts[i].Durable = true
				}
			case 1:
				keep := told(r, 6)
				f.Fail(keep...)
				want.Parts = failed(want, keep)
			default:
				b := bytes.Repeat([]byte{byte(r.Intn(3))}, r.Intn(4))
				f.Append(b)
				want.Parts = full(extent.File{Parts: append(want.Parts, extent.Part{Bytes: b})})
			}
			check(t, "calls", f, want.Parts...)
		}
	}
}

// P7.3: long files, too.
func TestFailOfLongFiles(t *testing.T) {
	r := rand.New(rand.NewSource(3))
	for range 50 {
		f, keep := random(r, 1000), told(r, 1000)
		g := apart(f)
		g.Fail(keep...)
		check(t, "Fail", g, failed(f, keep)...)
	}
}

// P7.4: what is handed in may be changed by whoever has it, and is not changed by a call.
func TestBytesHandedInAreCopied(t *testing.T) {
	whole := []byte("abcdef")
	l := [][]byte{whole[:2], nil, whole[2:3]}
	f := extent.Of(l...)
	f.Append(whole[3:4])
	f.Append(whole[4:5])
	want := []extent.Part{part("ab!"), part("c!"), part("d"), part("e")}
	if string(whole) != "abcdef" || len(l) != 3 || l[1] != nil {
		t.Fatalf("%q, %q", whole, l)
	}
	copy(whole, "??????")
	l[0], l[2] = []byte("!"), nil
	check(t, "whoever has the bytes changes them", f, want...)
}

// P7.4
func TestKeepIsOnlyRead(t *testing.T) {
	all := []bool{false, true, false, true}
	f := hand("a", "b", "c", "d")
	f.Fail(all[:2]...)
	if !slices.Equal(all, []bool{false, true, false, true}) {
		t.Fatalf("%v", all)
	}
	all[1] = false
	check(t, "Fail", f, part("\x00!"), part("b!"))
}

// calls are all that a file can be told, by their names.
func calls() map[string]func(f *extent.File) {
	return map[string]func(f *extent.File){
		"Append":            func(f *extent.File) { f.Append([]byte("xyz")) },
		"Append of nothing": func(f *extent.File) { f.Append(nil) },
		"Append of itself":  func(f *extent.File) { f.Append(f.Parts[0].Bytes) },
		"Sync":              func(f *extent.File) { f.Sync() },
		"Fail":              func(f *extent.File) { f.Fail() },
		"Fail that keeps":   func(f *extent.File) { f.Fail(false, true) },
		"Bytes":             func(f *extent.File) { f.Bytes() },
		"Len":               func(f *extent.File) { f.Len() },
		"Volatile":          func(f *extent.File) { f.Volatile() },
	}
}

// P7.4: a list of parts, and their bytes, are not changed, nor what lies behind their lengths.
func TestPartsHandedInAreOnlyRead(t *testing.T) {
	for what, call := range calls() {
		whole := []byte("abcdefgh")
		list := []extent.Part{{Bytes: whole[:2]}, {}, {Bytes: whole[2:4]}, {Bytes: whole[4:5]}, {Bytes: whole[5:6], Durable: true}, {}}
		before := slices.Clone(list)
		f := extent.File{Parts: list[:4]}
		call(&f)
		if string(whole) != "abcdefgh" {
			t.Fatalf("%s: bytes %q", what, whole)
		}
		if !sameParts(list, before) {
			t.Fatalf("%s: %#v", what, list)
		}
	}
}

// P7.4: what a call leaves is its own memory.
func TestPartsHandedInAreNotKept(t *testing.T) {
	for what, call := range calls() {
		if what == "Bytes" || what == "Len" || what == "Volatile" {
			continue
		}
		whole := []byte("abcdefgh")
		list := []extent.Part{{Bytes: whole[:2]}, {Bytes: whole[2:4], Durable: true}, {Bytes: whole[4:5]}}
		f, g := extent.File{Parts: list}, extent.File{Parts: slices.Clone(apart(extent.File{Parts: list}).Parts)}
		call(&f)
		call(&g)
		copy(whole, "????????")
		for i := range list {
			list[i] = part("?")
		}
		check(t, what, f, g.Parts...)
	}
}

// P7.4: what is done to a file is not seen in one that was made of it.
func TestCopiesOfAFile(t *testing.T) {
	for what, call := range calls() {
		for other, again := range calls() {
			f := extent.Of([]byte("ab"))
			f.Append([]byte("cd"))
			f.Append([]byte("ef"))
			g, h := f, apart(f)
			call(&f)
			check(t, what, g, h.Parts...)
			want := apart(f)
			again(&g)
			check(t, what+", and then "+other, f, want.Parts...)
		}
	}
}

// P7.4: parts of one file overlap, if somebody made them so: their bytes are none the less theirs.
func TestPartsThatOverlap(t *testing.T) {
	whole := []byte("abcd")
	f := extent.File{Parts: []extent.Part{{Bytes: whole[:3]}, {Bytes: whole[1:]}, {Bytes: whole}}}
	f.Fail(false, true)
	check(t, "Fail", f, part("\x00\x00\x00!"), part("bcd!"))
	f = extent.File{Parts: []extent.Part{{Bytes: whole}, {Bytes: whole, Durable: true}}}
	f.Fail()
	check(t, "Fail", f, part("\x00\x00\x00\x00!"), part("abcd!"))
}

// P7.4: what is answered is new each time, and no two of a file's parts share memory, behind their lengths neither.
func TestAnswersAreNewMemory(t *testing.T) {
	f := extent.Of([]byte("ab"), []byte("cd"))
	f.Append([]byte("ef"))
	for what, call := range calls() {
		g := apart(f)
		call(&g)
		want := apart(g)
		first, second := g.Bytes(), g.Bytes()
		copy(first, "????????")
		_ = append(first[:0], "!!!!!!!!"...)
		if !bytes.Equal(second, content(want)) {
			t.Fatalf("%s: %q", what, second)
		}
		check(t, what+": Bytes' answer is changed", g, want.Parts...)
		for i := range g.Parts {
			behind := g.Parts[i].Bytes[:cap(g.Parts[i].Bytes)]
			for j := range behind {
				behind[j] = byte('0' + i)
			}
			copy(want.Parts[i].Bytes, behind)
			check(t, what+": a part is changed", g, want.Parts...)
		}
	}
}

// P7.5: a file that is synced loses nothing.
func TestSyncedLosesNothing(t *testing.T) {
	eachFile(4, func(f extent.File) {
		each(3, both, func(keep []bool) {
			g := apart(f)
			g.Sync()
			g.Fail(keep...)
			if !bytes.Equal(g.Bytes(), content(f)) {
				t.Fatalf("%#v, %v: %q", f, keep, g.Bytes())
			}
		})
	})
}

// P7.5: how long what is left is, and in what it differs.
func TestWhatAFailureLeaves(t *testing.T) {
	r := rand.New(rand.NewSource(5))
	for range 3000 {
		f, keep := random(r, 8), told(r, 9)
		least, sofar := 0, 0
		for _, p := range f.Parts {
			sofar += len(p.Bytes)
			if p.Durable && len(p.Bytes) > 0 {
				least = sofar
			}
		}
		g := apart(f)
		g.Fail(keep...)
		left, was := g.Bytes(), content(f)
		if len(left) < least || len(left) > len(was) {
			t.Fatalf("%#v, %v: %d bytes; at least %d, at most %d", f, keep, len(left), least, len(was))
		}
		for i, b := range left {
			if b != 0 && b != was[i] {
				t.Fatalf("%#v, %v: %q", f, keep, left)
			}
		}
	}
}

// P7.5: if all stay, the content does; a failure behind a failure takes nothing.
func TestFailureBehindAFailure(t *testing.T) {
	r := rand.New(rand.NewSource(6))
	for range 1000 {
		f := random(r, 8)
		g := apart(f)
		g.Fail(slices.Repeat([]bool{true}, 8)...)
		if !bytes.Equal(g.Bytes(), content(f)) || g.Volatile() != 0 {
			t.Fatalf("%#v: all stay: %q, %d volatile", f, g.Bytes(), g.Volatile())
		}
		g = apart(f)
		g.Fail(told(r, 9)...)
		left := apart(g)
		g.Fail(told(r, 9)...)
		check(t, "again", g, left.Parts...)
	}
}
