package inode_test

import (
	"bytes"
	"fmt"
	"math"
	"math/rand"
	"runtime"
	"slices"
	"strings"
	"testing"

	"chartroom/api"
	"chartroom/inode"
)

// part is some of a file's bytes.
type part struct {
	text    string
	durable bool
}

// told is a file by the words.
type told struct {
	ino, many int
	parts     []part
}

func (f told) content() string {
	s := ""
	for _, p := range f.parts {
		s += p.text
	}
	return s
}

// words is a table by the chapter's words: its files stand as they were made, so by rising numbers.
type words struct {
	quota, next int
	files       []told
}

func newWords(quota int) *words {
	if quota < 0 {
		quota = 0
	}
	return &words{quota: quota, next: 1}
}

func (w *words) at(ino int) int {
	return slices.IndexFunc(w.files, func(f told) bool { return f.ino == ino })
}

func (w *words) used() int {
	n := 0
	for _, f := range w.files {
		n += len(f.content())
	}
	return n
}

func (w *words) volatile() int {
	n := 0
	for _, f := range w.files {
		for _, p := range f.parts {
			if !p.durable {
				n++
			}
		}
	}
	return n
}

func (w *words) all() (l []inode.Names) {
	for _, f := range w.files {
		l = append(l, inode.Names{Ino: f.ino, Many: f.many})
	}
	return l
}

func (w *words) make() int {
	w.files = append(w.files, told{ino: w.next})
	w.next++
	return w.next - 1
}

func (w *words) append(ino int, b string) api.Errno {
	at := w.at(ino)
	switch {
	case at < 0:
		return api.ErrNone
	case w.used()+len(b) > w.quota:
		return api.ErrSpace
	case b != "":
		w.files[at].parts = append(w.files[at].parts, part{text: b})
	}
	return api.OK
}

func (w *words) sync(ino int) api.Errno {
	at := w.at(ino)
	if at < 0 {
		return api.ErrNone
	}
	for i := range w.files[at].parts {
		w.files[at].parts[i].durable = true
	}
	return api.OK
}

func (w *words) link(ino int) api.Errno {
	at := w.at(ino)
	if at < 0 {
		return api.ErrNone
	}
	w.files[at].many++
	return api.OK
}

func (w *words) drop(ino int) api.Errno {
	at := w.at(ino)
	if at < 0 {
		return api.ErrNone
	}
	w.files[at].many--
	if w.files[at].many > 0 {
		return api.OK
	}
	w.files = slices.Delete(w.files, at, at+1)
	return api.OK
}

func (w *words) fail(names []inode.Names, keep []bool) {
	var stay []told
	for _, f := range w.files {
		f.parts, keep = survived(f.parts, keep)
		f.many = 0
		for _, n := range names {
			if n.Ino == f.ino {
				f.many = n.Many
				break
			}
		}
		if f.many >= 1 {
			stay = append(stay, f)
		}
	}
	w.files = stay
}

// survived is what a power failure leaves of parts, and what keep tells of others.
func survived(parts []part, keep []bool) (l []part, rest []bool) {
	for _, p := range parts {
		stays := p.durable
		if !p.durable && len(keep) > 0 {
			stays, keep = keep[0], keep[1:]
		}
		l = append(l, part{p.text, stays})
	}
	for len(l) > 0 && !l[len(l)-1].durable {
		l = l[:len(l)-1]
	}
	for i, p := range l {
		if !p.durable {
			l[i] = part{strings.Repeat("\x00", len(p.text)), true}
		}
	}
	return l, keep
}

// step is a call, to a table and to its words; both must answer the same.
type step struct {
	kind  string
	ino   int
	text  string
	names []inode.Names
	keep  []bool
}

func (s step) do(t *testing.T, x *inode.Table, w *words) {
	t.Helper()
	var got, want any
	switch s.kind {
	case "make":
		got, want = x.Make(), w.make()
	case "append":
		got, want = x.Append(s.ino, []byte(s.text)), w.append(s.ino, s.text)
	case "sync":
		got, want = x.Sync(s.ino), w.sync(s.ino)
	case "link":
		got, want = x.Link(s.ino), w.link(s.ino)
	case "drop":
		got, want = x.Drop(s.ino), w.drop(s.ino)
	case "fail":
		x.Fail(s.names, s.keep...)
		w.fail(s.names, s.keep)
	}
	if got != want {
		t.Fatalf("%v: %v; want %v", s, got, want)
	}
}

func run(t *testing.T, x *inode.Table, w *words, l ...step) {
	t.Helper()
	for _, s := range l {
		s.do(t, x, w)
	}
}

// steps is a row of calls: * is Make(), 1+ab is Append(1, ab), 1. is Sync(1), 1l is Link(1), 1d is Drop(1).
func steps(text string) (l []step) {
	for _, s := range strings.Fields(text) {
		if s == "*" {
			l = append(l, step{kind: "make"})
			continue
		}
		at := strings.IndexAny(s, "+.ld")
		x := step{kind: map[byte]string{'+': "append", '.': "sync", 'l': "link", 'd': "drop"}[s[at]], text: s[at+1:]}
		fmt.Sscan(s[:at], &x.ino)
		l = append(l, x)
	}
	return l
}

// both is a table on which these calls were done, and its words.
func both(t *testing.T, quota int, text string) (*inode.Table, *words) {
	t.Helper()
	x, w := inode.New(quota), newWords(quota)
	run(t, x, w, steps(text)...)
	return x, w
}

func made(t *testing.T, quota int, text string) *inode.Table {
	t.Helper()
	x, _ := both(t, quota, text)
	return x
}

// check holds all that a table answers against its words.
func check(t *testing.T, what string, x *inode.Table, w *words) {
	t.Helper()
	if got := x.All(); !slices.Equal(got, w.all()) {
		t.Fatalf("%s: All %v; want %v", what, got, w.all())
	}
	if got := x.Used(); got != w.used() {
		t.Fatalf("%s: Used %d; want %d", what, got, w.used())
	}
	if got := x.Volatile(); got != w.volatile() {
		t.Fatalf("%s: Volatile %d; want %d", what, got, w.volatile())
	}
	for ino := -1; ino <= w.next; ino++ {
		b, e := x.Bytes(ino)
		want, wantE := "", api.ErrNone
		if at := w.at(ino); at >= 0 {
			want, wantE = w.files[at].content(), api.OK
		}
		if string(b) != want || e != wantE || e != api.OK && b != nil {
			t.Fatalf("%s: Bytes(%d) %q, %v; want %q, %v", what, ino, b, e, want, wantE)
		}
	}
}

// text tells a table: 1:2 ab is file 1, of two names, with ab.
func text(x *inode.Table) string {
	var l []string
	for _, n := range x.All() {
		b, e := x.Bytes(n.Ino)
		if e != api.OK {
			return e.Error()
		}
		l = append(l, fmt.Sprintf("%d:%d %s", n.Ino, n.Many, b))
	}
	return strings.ReplaceAll(strings.Join(l, ", "), "\x00", "0")
}

// has holds a table against what text tells of it, how many bytes it uses, and how many parts are volatile.
func has(t *testing.T, what string, x *inode.Table, want string, used, volatile int) {
	t.Helper()
	if got := text(x); got != want || x.Used() != used || x.Volatile() != volatile {
		t.Fatalf("%s: %q, %d used, %d volatile; want %q, %d, %d", what, got, x.Used(), x.Volatile(), want, used, volatile)
	}
}

// each goes over all rows of up to most of l's items.
func each[T any](most int, l []T, do func([]T)) {
	var grow func([]T)
	grow = func(have []T) {
		do(have)
		if len(have) == most {
			return
		}
		for _, x := range l {
			grow(append(slices.Clone(have), x))
		}
	}
	grow(nil)
}

// one is that each of these files has one name.
func one(inos ...int) (l []inode.Names) {
	for _, ino := range inos {
		l = append(l, inode.Names{Ino: ino, Many: 1})
	}
	return l
}

// P9.1: a table without files.
func TestNew(t *testing.T) {
	for _, quota := range []int{0, 1, 5, math.MaxInt, -1, math.MinInt} {
		x, other := inode.New(quota), inode.New(quota)
		check(t, "New", x, newWords(quota))
		x.Make()
		check(t, "another one", other, newWords(quota))
		check(t, "a later one", inode.New(quota), newWords(quota))
	}
}

// P9.1: the quota (below 0: 0) is what all files together may have.
func TestQuota(t *testing.T) {
	for quota := -3; quota <= 6; quota++ {
		for size := range 9 {
			x, w := both(t, quota, "* *")
			want := api.OK
			if size > max(quota, 0) {
				want = api.ErrSpace
			}
			if e := x.Append(2, make([]byte, size)); e != want {
				t.Fatalf("quota %d, %d bytes: %v; want %v", quota, size, e, want)
			}
			w.append(2, strings.Repeat("\x00", size))
			check(t, fmt.Sprint(quota, size), x, w)
		}
	}
	for _, quota := range []int{math.MinInt, math.MinInt + 1, -1, 0} {
		x := made(t, quota, "*")
		if e := x.Append(1, []byte("a")); e != api.ErrSpace {
			t.Fatalf("quota %d: %v", quota, e)
		}
		if e := x.Append(1, nil); e != api.OK {
			t.Fatalf("quota %d, nothing: %v", quota, e)
		}
	}
	x := made(t, math.MaxInt, "* 1+abc * 2+def")
	if e := x.Append(1, make([]byte, 1<<20)); e != api.OK || x.Used() != 1<<20+6 {
		t.Fatalf("the greatest quota: %v, %d used", e, x.Used())
	}
}

// P9.1: a table made by hand has no files, a quota of 0, and the next number 1.
func TestTableMadeByHand(t *testing.T) {
	check(t, "made by hand", new(inode.Table), newWords(0))
	for _, row := range []string{"*", "* *", "1+a", "* 1+a", "* 1+", "1.", "1l", "1d", "* 1. 1l 1l 1d", "* 1d *"} {
		x, w := new(inode.Table), newWords(0)
		run(t, x, w, steps(row)...)
		check(t, row, x, w)
	}
	x := new(inode.Table)
	x.Fail(one(1), true)
	check(t, "failed", x, newWords(0))
	if ino := x.Make(); ino != 1 {
		t.Fatal(ino)
	}
}

// P9.1: the next number, without parts and names; numbers go on whatever went.
func TestMake(t *testing.T) {
	x := inode.New(9)
	for want := 1; want <= 300; want++ {
		if got := x.Make(); got != want {
			t.Fatalf("%d; want %d", got, want)
		}
		if b, e := x.Bytes(want); len(b) != 0 || e != api.OK {
			t.Fatalf("%d: %q, %v", want, b, e)
		}
		if l := x.All(); len(l) != want || l[want-1] != (inode.Names{Ino: want}) {
			t.Fatalf("%d: %v", want, l)
		}
	}
	if x.Used() != 0 || x.Volatile() != 0 {
		t.Fatalf("%d, %d", x.Used(), x.Volatile())
	}
	x = inode.New(9)
	for want := 1; want <= 20; want++ {
		if got := x.Make(); got != want {
			t.Fatalf("%d; want %d", got, want)
		}
		if e := x.Drop(want); e != api.OK || x.All() != nil {
			t.Fatalf("%d: %v, %v", want, e, x.All())
		}
	}
}

// P9.1: a table that is full may have a file more, which has no bytes.
func TestMakeBeyondTheQuota(t *testing.T) {
	x := made(t, 2, "* 1+ab *")
	has(t, "full", x, "1:0 ab, 2:0 ", 2, 1)
	has(t, "of nothing", made(t, 0, "* *"), "1:0 , 2:0 ", 0, 0)
}

// P9.1: all files' numbers, rising, whichever of them are gone, and in whatever order they were changed.
func TestAllIsRising(t *testing.T) {
	r := rand.New(rand.NewSource(1))
	for range 30 {
		x := inode.New(0)
		for range 50 {
			x.Make()
		}
		many := make([]int, 51)
		for range 200 {
			ino := 1 + r.Intn(50)
			x.Link(ino)
			many[ino]++
		}
		for _, ino := range r.Perm(50)[:20] {
			for range many[ino+1] + 1 {
				x.Drop(ino + 1)
			}
			many[ino+1] = -1
		}
		var want []inode.Names
		for ino, n := range many {
			if ino > 0 && n > 0 {
				want = append(want, inode.Names{Ino: ino, Many: n})
			}
		}
		got := slices.DeleteFunc(x.All(), func(n inode.Names) bool { return n.Many == 0 })
		if !slices.Equal(got, want) || !slices.IsSortedFunc(x.All(), func(a, b inode.Names) int { return a.Ino - b.Ino }) {
			t.Fatalf("%v; want %v", x.All(), want)
		}
	}
}

// P9.1: the bytes, and the volatile parts, of all files together.
func TestUsedAndVolatile(t *testing.T) {
	for _, x := range []struct {
		calls          string
		used, volatile int
	}{
		{"", 0, 0},
		{"* *", 0, 0},
		{"* 1+abc", 3, 1},
		{"* 1+ab 1+c", 3, 2},
		{"* 1+", 0, 0}, // of no bytes is no part
		{"* 1+ab 1+ 1+c 1+", 3, 2},
		{"* * 1+ab 2+c", 3, 2},
		{"* * 1+ab 2+c 1.", 3, 1},
		{"* * 1+ab 2+c 1. 2.", 3, 0},
		{"* * 1+ab 2+c 1. 1+d 1+e", 5, 3},
		{"* * 1+ab 2+c 1d", 1, 1},
		{"* * 1+ab 2+c 1d 2d", 0, 0},
		{"* * * 3+abcdefghij", 10, 1},
		{"* * * 3+abcdefghij 1+k", 10, 1}, // too many
	} {
		tab := made(t, 10, x.calls)
		for range 2 {
			if tab.Used() != x.used || tab.Volatile() != x.volatile {
				t.Fatalf("%s: %d, %d; want %d, %d", x.calls, tab.Used(), tab.Volatile(), x.used, x.volatile)
			}
		}
	}
}

// P9.2: the bytes stand at the end, as a volatile part.
func TestAppend(t *testing.T) {
	has(t, "three", made(t, 100, "* 1+ab * 2+x 1+c 1+def"), "1:0 abcdef, 2:0 x", 7, 4)
	x := made(t, 1<<20, "* *")
	all := make([]byte, 256)
	for i := range all {
		all[i] = byte(i)
	}
	for n := range 10 {
		if e := x.Append(2, all); e != api.OK {
			t.Fatal(e)
		}
		if b, e := x.Bytes(2); e != api.OK || !bytes.Equal(b, bytes.Repeat(all, n+1)) || x.Volatile() != n+1 {
			t.Fatalf("%v, %d bytes", e, len(b))
		}
	}
}

// P9.2: ErrSpace if what is used, of all files, would be above the quota; nothing is changed then.
func TestAppendBeyondTheQuota(t *testing.T) {
	for _, x := range []struct {
		calls, text string
		want        api.Errno
	}{
		{"* *", "abcde", api.OK},
		{"* *", "abcdef", api.ErrSpace},
		{"* * 1+abc", "de", api.OK},
		{"* * 1+abc", "def", api.ErrSpace},
		{"* * 2+abc", "de", api.OK},
		{"* * 2+abc", "def", api.ErrSpace},
		{"* * 1+abc 1. 2+d 2.", "e", api.OK}, // what is durable counts as well
		{"* * 1+abc 1. 2+d 2.", "ef", api.ErrSpace},
		{"* * 1+abcde", "", api.OK},
		{"* * 1+abcde", "f", api.ErrSpace},
		{"* * 1+abcde 1d", "fghij", api.OK}, // what is gone counts no more
		{"* * 1+abcde 1d", "fghijk", api.ErrSpace},
		{"* * 1+abcde 1l 1l 1d", "f", api.ErrSpace},
		{"* * 1+abcd 1l 1l", "e", api.OK}, // bytes count once, however many names there are
		{"* * 1+abcdef", "ghijk", api.OK}, // what found no room took none
		{"* * 1+abcdef", "ghijkl", api.ErrSpace},
	} {
		tab, w := both(t, 5, x.calls)
		if e := tab.Append(2, []byte(x.text)); e != x.want {
			t.Fatalf("%s, then %s: %v; want %v", x.calls, x.text, e, x.want)
		}
		w.append(2, x.text)
		check(t, x.calls+", then "+x.text, tab, w)
	}
}

// P9.2: what a failure took makes room.
func TestAppendBehindAFailure(t *testing.T) {
	for _, x := range []struct {
		keep []bool
		room int
	}{{nil, 3}, {[]bool{true}, 2}, {[]bool{false, true}, 1}, {[]bool{true, true}, 1}, {[]bool{false, false, true}, 2}, {[]bool{false, true, true}, 0}, {[]bool{true, true, true}, 0}} {
		for more := range 5 {
			tab := made(t, 5, "* 1+ab 1. 1+c 1+d * 2+e")
			tab.Fail(one(1, 2), x.keep...)
			want := api.OK
			if more > x.room {
				want = api.ErrSpace
			}
			if e := tab.Append(1, make([]byte, more)); e != want {
				t.Fatalf("%v, %d more: %v; want %v", x.keep, more, e, want)
			}
		}
	}
	tab := made(t, 5, "* 1+abcde 1. *")
	tab.Fail(one(2)) // a file that is gone makes room, too
	if e := tab.Append(2, []byte("fghij")); e != api.OK {
		t.Fatal(e)
	}
}

// P9.2: all that the file has is durable, and nothing else is.
func TestSync(t *testing.T) {
	x := made(t, 100, "* * * 1+ab 2+cd 2+ef 3+gh 2.")
	has(t, "synced", x, "1:0 ab, 2:0 cdef, 3:0 gh", 8, 2)
	x.Fail(one(1, 2, 3))
	has(t, "failed", x, "1:1 , 2:1 cdef, 3:1 ", 4, 0)
	if e := x.Sync(1); e != api.OK { // of no bytes
		t.Fatal(e)
	}
	if e := x.Sync(2); e != api.OK { // again
		t.Fatal(e)
	}
	has(t, "synced again", x, "1:1 , 2:1 cdef, 3:1 ", 4, 0)
	x = made(t, 100, "* 1l 1+ab 1. 1+cd")
	x.Fail(one(1))
	has(t, "what came behind it", x, "1:1 ab", 2, 0)
}

// P9.2
func TestBytes(t *testing.T) {
	x := made(t, 100, "* * 2+ab 2. 2+c")
	for _, c := range []struct {
		ino  int
		want string
		e    api.Errno
	}{{1, "", api.OK}, {2, "abc", api.OK}, {3, "", api.ErrNone}, {0, "", api.ErrNone}} {
		if b, e := x.Bytes(c.ino); string(b) != c.want || e != c.e {
			t.Fatalf("%d: %q, %v", c.ino, b, e)
		}
	}
	has(t, "Bytes changes nothing", x, "1:0 , 2:0 abc", 3, 1)
}

// P9.3: a name more, and one less; unless there is one left, the file is gone.
func TestLinkAndDrop(t *testing.T) {
	for _, x := range []struct{ calls, want string }{
		{"*", "1:0 "},
		{"* 1d", ""}, // none, and one less
		{"* 1l", "1:1 "},
		{"* 1l 1d", ""},
		{"* 1l 1l 1l", "1:3 "},
		{"* 1l 1l 1l 1d", "1:2 "},
		{"* 1l 1l 1l 1d 1d", "1:1 "},
		{"* 1l 1l 1l 1d 1d 1d", ""},
		{"* 1l 1d 1l", ""}, // what is gone comes back by nothing
		{"* 1l 1d 1+ab 1. 1d", ""},
		{"* * 1l 2l 2l 1d 2d", "2:1 "},
		{"* * 1+a 2+b 1d", "2:0 b"},
		{"* * 1+a 2+b 2l 2l 1d", "2:2 b"},
		{"* 1l 1d *", "2:0 "},
	} {
		if got := text(made(t, 100, x.calls)); got != x.want {
			t.Fatalf("%s: %q; want %q", x.calls, got, x.want)
		}
	}
}

// P9.3: how many names a file has goes round at an int's ends.
func TestNamesGoRound(t *testing.T) {
	x := inode.New(0)
	x.Make()
	x.Fail([]inode.Names{{Ino: 1, Many: math.MaxInt}})
	names := func(what string, want ...inode.Names) {
		t.Helper()
		if !slices.Equal(x.All(), want) {
			t.Fatalf("%s: %v; want %v", what, x.All(), want)
		}
	}
	names("the greatest", inode.Names{Ino: 1, Many: math.MaxInt})
	if e := x.Link(1); e != api.OK {
		t.Fatal(e)
	}
	names("round", inode.Names{Ino: 1, Many: math.MinInt}) // a Link lets nothing go
	if e := x.Drop(1); e != api.OK {
		t.Fatal(e)
	}
	names("and back", inode.Names{Ino: 1, Many: math.MaxInt})
	x.Link(1)
	x.Link(1)
	names("round again", inode.Names{Ino: 1, Many: math.MinInt + 1})
	if e := x.Drop(1); e != api.OK {
		t.Fatal(e)
	}
	names("it is gone")
	if e := x.Link(1); e != api.ErrNone {
		t.Fatal(e)
	}
}

// Ahead of the promises: of a number that is no file's nothing is changed, whatever else is wrong.
func TestNoFile(t *testing.T) {
	for _, ino := range []int{0, -1, 2, 4, 5, math.MaxInt, math.MinInt} {
		x, w := both(t, 5, "* * * 1+ab 2+c 2d 1l 3+d 3.")
		for _, b := range []string{"", "a", "abc", strings.Repeat("a", 1000)} { // ErrNone is ahead of ErrSpace
			if e := x.Append(ino, []byte(b)); e != api.ErrNone {
				t.Fatalf("Append(%d): %v", ino, e)
			}
		}
		if e := x.Sync(ino); e != api.ErrNone {
			t.Fatalf("Sync(%d): %v", ino, e)
		}
		if e := x.Link(ino); e != api.ErrNone {
			t.Fatalf("Link(%d): %v", ino, e)
		}
		if e := x.Drop(ino); e != api.ErrNone {
			t.Fatalf("Drop(%d): %v", ino, e)
		}
		if b, e := x.Bytes(ino); b != nil || e != api.ErrNone {
			t.Fatalf("Bytes(%d): %v, %v", ino, b, e)
		}
		check(t, fmt.Sprint(ino), x, w)
		if got := x.Make(); got != 4 {
			t.Fatalf("the next number: %d", got)
		}
	}
}

// Ahead of the promises: of a nil table.
func TestNilTable(t *testing.T) {
	var x *inode.Table
	for _, ino := range []int{0, 1, -1, math.MaxInt} { // ErrNil is ahead of ErrNone
		for what, e := range map[string]api.Errno{"Append": x.Append(ino, []byte("a")), "Append nothing": x.Append(ino, nil), "Sync": x.Sync(ino), "Link": x.Link(ino), "Drop": x.Drop(ino)} {
			if e != api.ErrNil {
				t.Errorf("%s(%d): %v", what, ino, e)
			}
		}
		if b, e := x.Bytes(ino); b != nil || e != api.ErrNil {
			t.Errorf("Bytes(%d): %v, %v", ino, b, e)
		}
	}
	x.Fail(nil)
	x.Fail(one(1), true, false)
	if x.Make() != 0 || x.All() != nil || x.Used() != 0 || x.Volatile() != 0 {
		t.Errorf("%d, %v, %d, %d", x.Make(), x.All(), x.Used(), x.Volatile())
	}
}

// P9.4: by the files' numbers, and then in order, not as the parts came.
func TestFailKeeps(t *testing.T) {
	for _, x := range []struct {
		keep, want string
		used       int
	}{
		// volatile are b, c of file 1; none of 2; g, h of 3.
		{"", "1:1 a, 2:1 de, 3:1 f", 4},
		{"0000", "1:1 a, 2:1 de, 3:1 f", 4},
		{"1", "1:1 ab, 2:1 de, 3:1 f", 5},
		{"01", "1:1 a0c, 2:1 de, 3:1 f", 6},
		{"001", "1:1 a, 2:1 de, 3:1 fg", 5},
		{"0001", "1:1 a, 2:1 de, 3:1 f0h", 6},
		{"1001", "1:1 ab, 2:1 de, 3:1 f0h", 7},
		{"011", "1:1 a0c, 2:1 de, 3:1 fg", 7},
		{"1111", "1:1 abc, 2:1 de, 3:1 fgh", 8},
		{"11110000", "1:1 abc, 2:1 de, 3:1 fgh", 8},
		{"00001111", "1:1 a, 2:1 de, 3:1 f", 4},
	} {
		var keep []bool
		for _, c := range x.keep {
			keep = append(keep, c == '1')
		}
		tab := made(t, 100, "* * * 3+f 3. 3+g 1+a 1. 2+d 1+b 2+e 3+h 2. 1+c")
		tab.Fail(one(3, 1, 2), keep...)
		has(t, x.keep, tab, x.want, x.used, 0)
	}
}

// P9.4: each file has as many names as names tells for its number, the first one that does; none: 0.
func TestFailTellsNames(t *testing.T) {
	many := func(l ...int) (names []inode.Names) {
		for i := 0; i < len(l); i += 2 {
			names = append(names, inode.Names{Ino: l[i], Many: l[i+1]})
		}
		return names
	}
	for _, x := range []struct{ names, want []inode.Names }{
		{nil, nil},
		{many(1, 1, 2, 1, 3, 1), many(1, 1, 2, 1, 3, 1)},
		{many(3, 7, 1, 2), many(1, 2, 3, 7)},
		{many(2, 5), many(2, 5)},
		{many(2, 0), nil},
		{many(2, -1, 1, math.MinInt, 3, 1), many(3, 1)},
		{many(2, 3, 2, 0), many(2, 3)},
		{many(2, 0, 2, 3), nil},
		{many(2, -3, 1, 1, 2, 3), many(1, 1)},
		{many(2, 1, 2, 2, 2, 3), many(2, 1)},
		{many(2, 3, 2, 2, 2, 1), many(2, 3)},
		{many(0, 1, -1, 1, 4, 1, 5, 1, math.MaxInt, 1, math.MinInt, 1), nil}, // no files'
		{many(4, 2, 1, 2, 0, 9), many(1, 2)},
		{many(1, math.MaxInt), many(1, math.MaxInt)},
	} {
		for _, row := range []string{"* * *", "* * * 1l 2l 2l 3l", "* * * 1+a 2+b 3+c 2."} { // what they had before counts for nothing
			tab := made(t, 100, row)
			tab.Fail(x.names)
			if got := tab.All(); !slices.Equal(got, x.want) {
				t.Fatalf("%s, %v: %v; want %v", row, x.names, got, x.want)
			}
			for ino := 1; ino <= 3; ino++ {
				_, e := tab.Bytes(ino)
				there := slices.ContainsFunc(x.want, func(n inode.Names) bool { return n.Ino == ino })
				if there != (e == api.OK) || !there && e != api.ErrNone {
					t.Fatalf("%s, %v: Bytes(%d) %v", row, x.names, ino, e)
				}
			}
		}
	}
}

// P9.4: the parts of a file that will be gone take their share of what is told.
func TestFailTellsOfFilesThatGo(t *testing.T) {
	for _, x := range []struct {
		names []inode.Names
		want  string
	}{{one(1, 2, 3), "1:1 0b, 2:1 c, 3:1 e"}, {one(2, 3), "2:1 c, 3:1 e"}, {one(3), "3:1 e"}, {one(1, 3), "1:1 0b, 3:1 e"}, {nil, ""}} {
		tab := made(t, 100, "* * * 1+a 1+b 2+c 2+d 3+e 3+f")
		tab.Fail(x.names, false, true, true, false, true)
		if got := text(tab); got != x.want {
			t.Fatalf("%v: %q; want %q", x.names, got, x.want)
		}
	}
}

// P9.4: files go by their numbers' size, also where these have more digits, or there are many.
func TestFailGoesByNumbers(t *testing.T) {
	x := inode.New(1000)
	var names []inode.Names
	var keep []bool
	for i := range 150 {
		ino := x.Make()
		names = append(names, inode.Names{Ino: 1000 - ino, Many: 1}, inode.Names{Ino: ino, Many: i + 1})
		keep = append(keep, i%3 == 0, i%7 == 2)
	}
	for ino := 150; ino > 0; ino-- {
		x.Append(ino, []byte("a"))
		x.Append(ino, []byte("b"))
	}
	x.Fail(names, keep...)
	for i := range 150 {
		want := map[[2]bool]string{{true, true}: "ab", {true, false}: "a", {false, true}: "\x00b", {false, false}: ""}[[2]bool{keep[2*i], keep[2*i+1]}]
		if b, e := x.Bytes(i + 1); string(b) != want || e != api.OK {
			t.Fatalf("%d: %q, %v; want %q", i+1, b, e, want)
		}
	}
}

// P9.4: the next number stays, also if all files are gone.
func TestFailLeavesTheNextNumber(t *testing.T) {
	for _, names := range [][]inode.Names{nil, one(1), one(3), one(1, 2, 3), one(9, 8, 4)} {
		x := made(t, 100, "* * *")
		x.Fail(names)
		if ino := x.Make(); ino != 4 {
			t.Fatalf("%v: %d", names, ino)
		}
		x.Fail(names)
		x.Fail(names)
		if ino := x.Make(); ino != 5 {
			t.Fatalf("%v: %d", names, ino)
		}
	}
	x := inode.New(1)
	x.Fail(one(1), true)
	if ino := x.Make(); ino != 1 {
		t.Fatal(ino)
	}
}

// P9.1 to P9.4: the chapter's examples.
func TestExamples(t *testing.T) {
	x := inode.New(5)
	if ino := x.Make(); ino != 1 {
		t.Fatal(ino)
	}
	if e := x.Append(1, []byte("abc")); e != api.OK {
		t.Fatal(e)
	}
	if e := x.Append(1, []byte("def")); e != api.ErrSpace || x.Used() != 3 {
		t.Fatal(e, x.Used())
	}
	x.Link(1)
	x.Make()
	x.Append(2, []byte("xy"))
	x.Sync(2)
	x.Link(2)
	x.Fail(one(1, 2))
	has(t, "failed", x, "1:1 , 2:1 xy", 2, 0)
	if e := x.Drop(1); e != api.OK {
		t.Fatal(e)
	}
	if b, e := x.Bytes(1); b != nil || e != api.ErrNone {
		t.Fatal(b, e)
	}
	if ino := x.Make(); ino != 3 {
		t.Fatal(ino)
	}
}

// P9.1 to P9.4: all short rows of calls, whatever stays.
func TestShortRowsOfCalls(t *testing.T) {
	each(5, []string{"*", "1+a", "1+bc", "2+d", "1.", "2.", "1l", "1d", "2d"}, func(l []string) {
		row := "* " + strings.Join(l, " ")
		x, w := both(t, 4, row)
		check(t, row, x, w)
	})
	var lists [][]bool
	each(4, []bool{false, true}, func(keep []bool) { lists = append(lists, keep) })
	each(4, []string{"1+a", "1+bc", "2+d", "1.", "2."}, func(l []string) {
		row := "* * " + strings.Join(l, " ")
		for _, keep := range lists {
			for _, names := range [][]inode.Names{one(1, 2), one(2)} {
				x, w := both(t, 4, row)
				run(t, x, w, step{kind: "fail", names: names, keep: keep})
				check(t, fmt.Sprint(row, ", failed with ", names, keep), x, w)
			}
		}
	})
}

// P9.1 to P9.4, P9.6: long rows of calls.
func TestLongRowsOfCalls(t *testing.T) {
	r := rand.New(rand.NewSource(2))
	for range 60 {
		quota := r.Intn(30)
		x, w := inode.New(quota), newWords(quota)
		for range 300 {
			s := random(r, w)
			s.do(t, x, w)
			check(t, fmt.Sprint(s), x, w)
		}
	}
}

func random(r *rand.Rand, w *words) step {
	ino := r.Intn(w.next + 1)
	if len(w.files) > 0 && r.Intn(8) > 0 {
		ino = w.files[r.Intn(len(w.files))].ino
	}
	switch n := r.Intn(40); {
	case n == 0:
		return step{kind: "fail", names: randomNames(r, w), keep: randomKeep(r, w.volatile())}
	case n < 5:
		return step{kind: "make"}
	case n < 9:
		return step{kind: "sync", ino: ino}
	case n < 16:
		return step{kind: "link", ino: ino}
	case n < 19:
		return step{kind: "drop", ino: ino}
	}
	return step{kind: "append", ino: ino, text: strings.Repeat(string(rune('a'+r.Intn(26))), r.Intn(5))}
}

func randomNames(r *rand.Rand, w *words) (l []inode.Names) {
	for range r.Intn(2 * (len(w.files) + 1)) {
		l = append(l, inode.Names{Ino: r.Intn(w.next + 2), Many: r.Intn(5) - 1})
	}
	return l
}

func randomKeep(r *rand.Rand, most int) (l []bool) {
	for range r.Intn(most + 3) {
		l = append(l, r.Intn(2) == 0)
	}
	return l
}

// P9.5: what was handed in may be changed by whoever has it.
func TestWhatIsHandedInIsNotKept(t *testing.T) {
	x := made(t, 100, "* *")
	b := []byte("abcdef")
	x.Append(1, b[:3])
	x.Append(2, b[2:4])
	copy(b, "??????")
	has(t, "bytes are changed", x, "1:0 abc, 2:0 cd", 5, 2)
	names, keep := one(1, 2), []bool{true, true}
	x.Fail(names, keep...)
	names[0], names[1], keep[0], keep[1] = inode.Names{}, inode.Names{Ino: 1, Many: 9}, false, false
	has(t, "names are changed", x, "1:1 abc, 2:1 cd", 5, 0)
	x.Append(1, []byte("x"))
	x.Fail(one(1, 2))
	has(t, "a failure of its own", x, "1:1 abc, 2:1 cd", 5, 0)
}

// P9.5: what was handed in is only read, what lies behind a list's length included.
func TestWhatIsHandedInIsOnlyRead(t *testing.T) {
	b := []byte("abcdef")
	names := []inode.Names{{Ino: 2, Many: 1}, {Ino: 1, Many: 2}, {Ino: 1, Many: 3}, {Ino: 7, Many: 7}}
	keep := []bool{false, true, false, true, true, false}
	b2, names2, keep2 := slices.Clone(b), slices.Clone(names), slices.Clone(keep)
	x := made(t, 100, "* *")
	for i := range 4 {
		x.Append(1, b[:i])
		x.Append(2, b[i:i+1])
	}
	x.Fail(names[:3], keep[:4]...)
	x.Append(1, b[1:2])
	x.Fail(names[:2], keep[:1]...)
	if !bytes.Equal(b, b2) || !slices.Equal(names, names2) || !slices.Equal(keep, keep2) {
		t.Fatalf("%q, %v, %v", b, names, keep)
	}
}

// P9.5: what is answered may be changed by whoever has it.
func TestAnswersAreNewMemory(t *testing.T) {
	x := made(t, 100, "* * 1+ab 1. 1+c 2+de 2l")
	for range 2 {
		b, _ := x.Bytes(1)
		b2, _ := x.Bytes(1)
		all, all2 := x.All(), x.All()
		spoil(b, '?')
		spoil(all, inode.Names{Ino: 9, Many: 9})
		if string(b2) != "abc" || !slices.Equal(all2, []inode.Names{{Ino: 1}, {Ino: 2, Many: 1}}) {
			t.Fatalf("another answer: %q, %v", b2, all2)
		}
		has(t, "an answer is changed", x, "1:0 abc, 2:1 de", 5, 2)
	}
	b, _ := x.Bytes(1)
	all := x.All()
	x.Append(1, []byte("d"))
	x.Link(1)
	x.Fail(one(1, 2))
	x.Drop(2)
	if string(b) != "abc" || !slices.Equal(all, []inode.Names{{Ino: 1}, {Ino: 2, Many: 1}}) {
		t.Fatalf("the table is changed: %q, %v", b, all)
	}
}

// spoil writes all that a list has room for.
func spoil[T any](l []T, x T) {
	l = l[:cap(l)]
	for i := range l {
		l[i] = x
	}
}

// P9.5: bytes answered, handed in again, are copied.
func TestAnswersHandedInAgain(t *testing.T) {
	x := made(t, 100, "* * 1+abc")
	b, _ := x.Bytes(1)
	x.Append(1, b)
	x.Append(2, b[1:])
	spoil(b, '?')
	has(t, "handed in again", x, "1:0 abcabc, 2:0 bc", 8, 3)
	all := x.All()
	all[0].Many, all[1].Many = 2, 1
	x.Fail(all, true, true, true)
	has(t, "failed", x, "1:2 abcabc, 2:1 bc", 8, 0)
}

// P9.5: no more is kept than what files have.
func TestMemoryOfFilesThatAreGone(t *testing.T) {
	const long = 1 << 25
	for what, call := range map[string]func(x *inode.Table){
		"Drop":         func(x *inode.Table) { x.Append(1, make([]byte, long)); x.Drop(1) },
		"Fail":         func(x *inode.Table) { x.Append(1, make([]byte, long)); x.Fail(nil, true) },
		"lost":         func(x *inode.Table) { x.Append(1, make([]byte, long)); x.Fail(one(1)) },
		"a small part": func(x *inode.Table) { x.Append(1, make([]byte, long)[:1]) },
		"no room":      func(x *inode.Table) { x.Append(1, make([]byte, 2*long)) },
	} {
		x := made(t, long, "*")
		before := inUse()
		call(x)
		if more := inUse() - before; more > long/2 {
			t.Errorf("%s: %d bytes more are kept", what, more)
		}
		runtime.KeepAlive(x)
	}
}

// inUse is how many bytes somebody still has.
func inUse() int64 {
	var m runtime.MemStats
	runtime.GC()
	runtime.ReadMemStats(&m)
	return int64(m.HeapAlloc)
}

// P9.6: what is used is never above the quota, numbers are never given twice, a failure adds no byte, and a file that was synced has its bytes behind a failure that leaves it a name.
func TestWhatFollows(t *testing.T) {
	r := rand.New(rand.NewSource(3))
	for range 60 {
		quota := r.Intn(40) - 5
		x, w := inode.New(quota), newWords(quota)
		given := map[int]bool{}
		for range 200 {
			if r.Intn(6) == 0 {
				ino := x.Make()
				if w.make(); given[ino] {
					t.Fatalf("%d is given twice", ino)
				}
				given[ino] = true
			}
			random(r, w).do(t, x, w)
			for _, n := range x.All() {
				given[n.Ino] = true
			}
			if x.Used() > max(quota, 0) {
				t.Fatalf("%d used of %d", x.Used(), quota)
			}
			if r.Intn(10) == 0 {
				failed(t, r, x, w)
			}
		}
	}
}

// failed fails a table of which some files were synced.
func failed(t *testing.T, r *rand.Rand, x *inode.Table, w *words) {
	t.Helper()
	synced := map[int]string{}
	for _, n := range x.All() {
		if r.Intn(2) == 0 {
			run(t, x, w, step{kind: "sync", ino: n.Ino})
			b, _ := x.Bytes(n.Ino)
			synced[n.Ino] = string(b)
		}
	}
	was := map[int]int{}
	for _, n := range x.All() {
		b, _ := x.Bytes(n.Ino)
		was[n.Ino] = len(b)
	}
	used, names := x.Used(), randomNames(r, w)
	run(t, x, w, step{kind: "fail", names: names, keep: randomKeep(r, x.Volatile())})
	if x.Used() > used {
		t.Fatalf("%d used, %d ahead of the failure", x.Used(), used)
	}
	for _, n := range x.All() {
		b, _ := x.Bytes(n.Ino)
		if want, ok := synced[n.Ino]; ok && string(b) != want || len(b) > was[n.Ino] {
			t.Fatalf("%d: %q; want %q", n.Ino, b, want)
		}
	}
}
