package folder_test

import (
	"bytes"
	"fmt"
	"maps"
	"math"
	"math/rand"
	"reflect"
	"runtime"
	"slices"
	"strings"
	"testing"

	"chartroom/api"
	"chartroom/folder"
)

// part is some of a file's bytes.
type part struct {
	text    string
	durable bool
}

// words is a folder by the chapter's words. What the directory was is kept whole: ahead of all that is pending, and behind each operation of it. Files are told by the place at which they were made.
type words struct {
	bytes, entries int
	was            []map[string]int
	unlinked       []int // the file of each Unlink that is pending
	files          [][]part
}

func newWords(quotaBytes, entries int) *words {
	return &words{bytes: max(quotaBytes, 0), entries: max(entries, 0), was: []map[string]int{{}}}
}

// names is what the directory is.
func (w *words) names() map[string]int { return w.was[len(w.was)-1] }

func (w *words) sorted() []string { return slices.Sorted(maps.Keys(w.names())) }

// goOn is an operation of the directory more.
func (w *words) goOn(change func(map[string]int)) {
	names := maps.Clone(w.names())
	change(names)
	w.was = append(w.was, names)
}

// letGo takes the bytes of all files that have no name and no pending Unlink.
func (w *words) letGo() {
	for at := range w.files {
		named := slices.Contains(slices.Collect(maps.Values(w.names())), at)
		if !named && !slices.Contains(w.unlinked, at) {
			w.files[at] = nil
		}
	}
}

func content(parts []part) string {
	s := ""
	for _, p := range parts {
		s += p.text
	}
	return s
}

func (w *words) used() int {
	n := 0
	for _, f := range w.files {
		n += len(content(f))
	}
	return n
}

func (w *words) volatile() int {
	n := 0
	for _, f := range w.files {
		for _, p := range f {
			if !p.durable {
				n++
			}
		}
	}
	return n
}

func (w *words) pending() int { return len(w.was) - 1 }

// may tells what is wrong with a name more.
func (w *words) may(name string) api.Errno {
	_, there := w.names()[name]
	switch {
	case name == "":
		return api.ErrArg
	case there:
		return api.ErrExist
	case len(w.names()) >= w.entries:
		return api.ErrSpace
	}
	return api.OK
}

func (w *words) do(c folder.Call) folder.Result {
	at, there := w.names()[c.Name]
	none := folder.Result{Err: api.ErrNone}
	switch c.Kind {
	case folder.Create:
		e := w.may(c.Name)
		if e == api.OK {
			w.goOn(func(names map[string]int) { names[c.Name] = len(w.files) })
			w.files = append(w.files, nil)
		}
		return folder.Result{Err: e}
	case folder.Write:
		if !there {
			return none
		}
		if w.used()+len(c.Bytes) > w.bytes {
			return folder.Result{Err: api.ErrSpace}
		}
		if len(c.Bytes) > 0 {
			w.files[at] = append(w.files[at], part{text: string(c.Bytes)})
		}
	case folder.Fsync:
		if !there {
			return none
		}
		for i := range w.files[at] {
			w.files[at][i].durable = true
		}
	case folder.FsyncDir:
		w.was, w.unlinked = w.was[w.pending():], nil
		w.letGo()
	case folder.Link:
		if !there {
			return none
		}
		e := w.may(c.To)
		if e == api.OK {
			w.goOn(func(names map[string]int) { names[c.To] = at })
		}
		return folder.Result{Err: e}
	case folder.Unlink:
		if !there {
			return none
		}
		w.goOn(func(names map[string]int) { delete(names, c.Name) })
		w.unlinked = append(w.unlinked, at)
	case folder.Readdir:
		return folder.Result{Names: w.sorted()}
	case folder.Read:
		if !there {
			return none
		}
		return folder.Result{Bytes: []byte(content(w.files[at]))}
	default:
		return folder.Result{Err: api.ErrArg}
	}
	return folder.Result{}
}

func (w *words) power(ops int, keep []bool) {
	w.was, w.unlinked = []map[string]int{w.was[min(max(ops, 0), w.pending())]}, nil
	for at, f := range w.files {
		w.files[at], keep = survived(f, keep)
	}
	w.letGo()
}

// survived is what a power failure leaves of parts, and what keep tells of others.
func survived(parts []part, keep []bool) (l []part, rest []bool) {
	for _, p := range parts {
		stays := p.durable
		if !p.durable && len(keep) > 0 {
			stays, keep = keep[0], keep[1:]
		}
		l = append(l, part{p.text, stays})
	}
	for len(l) > 0 && !l[len(l)-1].durable {
		l = l[:len(l)-1]
	}
	for i, p := range l {
		if !p.durable {
			l[i] = part{strings.Repeat("\x00", len(p.text)), true}
		}
	}
	return l, keep
}

// text tells files: a xy, b is that a has xy, and b nothing. Noughts are told as 0.
func text(l []folder.File) string {
	var out []string
	for _, f := range l {
		out = append(out, strings.TrimSpace(f.Name+" "+string(f.Bytes)))
	}
	return strings.ReplaceAll(strings.Join(out, ", "), "\x00", "0")
}

func (w *words) text() string {
	var l []folder.File
	for _, name := range w.sorted() {
		l = append(l, folder.File{Name: name, Bytes: []byte(content(w.files[w.names()[name]]))})
	}
	return text(l)
}

// same tells whether two answers are; a list that is nil is one that is empty.
func same(a, b folder.Result) bool {
	return a.Err == b.Err && slices.Equal(a.Names, b.Names) && bytes.Equal(a.Bytes, b.Bytes)
}

// step is a call, or a power failure.
type step struct {
	call  folder.Call
	power bool
	ops   int
	keep  []bool
}

// bits is what keep is told by 0s and 1s.
func bits(text string) (l []bool) {
	for _, c := range text {
		l = append(l, c == '1')
	}
	return l
}

// steps is a row of calls: *a is Create a, a+xy is Write a xy, a. is Fsync a, . is FsyncDir, a>b is Link a b, -a is Unlink a, ? is Readdir, ?a is Read a; !2:01 is a power failure of which two operations stay, and the second volatile part. A name of a _ is nothing.
func steps(row string) (l []step) {
	plain := func(s string) string { return strings.ReplaceAll(s, "_", "") }
	for _, s := range strings.Fields(row) {
		var x step
		to := strings.IndexAny(s, "+>")
		switch {
		case s[0] == '!':
			x.power = true
			ops, keep, _ := strings.Cut(s[1:], ":")
			fmt.Sscan(ops, &x.ops)
			x.keep = bits(keep)
		case s == ".":
			x.call = folder.Call{Kind: folder.FsyncDir}
		case s == "?":
			x.call = folder.Call{Kind: folder.Readdir}
		case s[0] == '*':
			x.call = folder.Call{Kind: folder.Create, Name: plain(s[1:])}
		case s[0] == '-':
			x.call = folder.Call{Kind: folder.Unlink, Name: plain(s[1:])}
		case s[0] == '?':
			x.call = folder.Call{Kind: folder.Read, Name: plain(s[1:])}
		case to >= 0 && s[to] == '+':
			x.call = folder.Call{Kind: folder.Write, Name: plain(s[:to]), Bytes: []byte(s[to+1:])}
		case to >= 0:
			x.call = folder.Call{Kind: folder.Link, Name: plain(s[:to]), To: plain(s[to+1:])}
		default:
			x.call = folder.Call{Kind: folder.Fsync, Name: plain(strings.TrimSuffix(s, "."))}
		}
		l = append(l, x)
	}
	return l
}

// do does a step to a folder and to its words; both must answer the same.
func (s step) do(t *testing.T, f *folder.Folder, w *words) {
	t.Helper()
	if s.power {
		f.Power(s.ops, s.keep...)
		w.power(s.ops, s.keep)
		return
	}
	if got, want := f.Do(s.call), w.do(s.call); !same(got, want) {
		t.Fatalf("%s %+v: %+v; want %+v", folder.Word(s.call.Kind), s.call, got, want)
	}
}

func run(t *testing.T, f *folder.Folder, w *words, l ...step) {
	t.Helper()
	for _, s := range l {
		s.do(t, f, w)
	}
}

// both is a folder on which these calls were done, and its words.
func both(t *testing.T, quotaBytes, entries int, row string) (*folder.Folder, *words) {
	t.Helper()
	f, w := folder.New(quotaBytes, entries), newWords(quotaBytes, entries)
	run(t, f, w, steps(row)...)
	return f, w
}

func made(t *testing.T, quotaBytes, entries int, row string) *folder.Folder {
	t.Helper()
	f, _ := both(t, quotaBytes, entries, row)
	return f
}

// check holds all that a folder tells against its words.
func check(t *testing.T, what string, f *folder.Folder, w *words) {
	t.Helper()
	if got := text(f.Files()); got != w.text() {
		t.Fatalf("%s: Files %q; want %q", what, got, w.text())
	}
	if f.Pending() != w.pending() || f.Volatile() != w.volatile() || f.Used() != w.used() {
		t.Fatalf("%s: %d pending, %d volatile, %d used; want %d, %d, %d", what, f.Pending(), f.Volatile(), f.Used(), w.pending(), w.volatile(), w.used())
	}
	run(t, f, w, steps("? ?a ?b ?c ?_")...)
}

// has holds a folder against what is told of it.
func has(t *testing.T, what string, f *folder.Folder, want string, pending, volatile, used int) {
	t.Helper()
	if got := text(f.Files()); got != want || f.Pending() != pending || f.Volatile() != volatile || f.Used() != used {
		t.Fatalf("%s: %q, %d pending, %d volatile, %d used; want %q, %d, %d, %d", what, got, f.Pending(), f.Volatile(), f.Used(), want, pending, volatile, used)
	}
}

// answers does calls, and tells their errors' numbers.
func answers(f *folder.Folder, row string) string {
	var l []string
	for _, s := range steps(row) {
		l = append(l, fmt.Sprint(int(f.Do(s.call).Err)))
	}
	return strings.Join(l, " ")
}

// each goes over all rows of up to most of l's items.
func each[T any](most int, l []T, do func([]T)) {
	var grow func([]T)
	grow = func(have []T) {
		do(have)
		if len(have) == most {
			return
		}
		for _, x := range l {
			grow(append(slices.Clone(have), x))
		}
	}
	grow(nil)
}

// failures are all power failures that a folder of its words may have: so many operations stay, and these volatile parts.
func failures(w *words) (l []step) {
	for ops := range w.pending() + 1 {
		for told := range 1 << w.volatile() {
			x := step{power: true, ops: ops}
			for i := range w.volatile() {
				x.keep = append(x.keep, told>>i&1 == 1)
			}
			l = append(l, x)
		}
	}
	return l
}

// The chapter's examples.
func TestExamples(t *testing.T) {
	f := folder.New(10, 3)
	if got := answers(f, "*a a+xy a>b"); got != "0 0 0" {
		t.Fatal(got)
	}
	if r := f.Do(folder.Call{Kind: folder.Read, Name: "b"}); r.Err != api.OK || string(r.Bytes) != "xy" || r.Names != nil {
		t.Fatalf("%+v", r)
	}
	if got := answers(f, "-a"); got != "0" {
		t.Fatal(got)
	}
	if r := f.Do(folder.Call{Kind: folder.Readdir}); r.Err != api.OK || !slices.Equal(r.Names, []string{"b"}) || r.Bytes != nil {
		t.Fatalf("%+v", r)
	}
	answers(f, ".")
	f.Power(0)
	has(t, "failed", f, "b", 0, 0, 0)

	f = folder.New(10, 3)
	if got := answers(f, "*a *a *_ c+x a+01234567890"); got != "0 81 2 80 90" {
		t.Fatal(got)
	}
}

// P10.1: a folder without names.
func TestNew(t *testing.T) {
	edges := []int{0, 1, 5, math.MaxInt, -1, math.MinInt}
	for _, quotaBytes := range edges {
		for _, entries := range edges {
			f, other := folder.New(quotaBytes, entries), folder.New(quotaBytes, entries)
			w := newWords(quotaBytes, entries)
			check(t, "new", f, w)
			has(t, "new", f, "", 0, 0, 0)
			answers(f, "*a a+x")
			check(t, "another one", other, w)
			check(t, "a later one", folder.New(quotaBytes, entries), w)
		}
	}
}

// P10.1: so many bytes may all files have together; below 0: 0.
func TestQuotaOfBytes(t *testing.T) {
	for quota := -3; quota <= 6; quota++ {
		for size := range 9 {
			f := folder.New(quota, 3)
			answers(f, "*a *b")
			want := api.OK
			if size > max(quota, 0) {
				want = api.ErrSpace
			}
			if r := f.Do(folder.Call{Kind: folder.Write, Name: "b", Bytes: make([]byte, size)}); r.Err != want {
				t.Fatalf("quota %d, %d bytes: %v; want %v", quota, size, r.Err, want)
			}
		}
	}
	for _, x := range []struct{ row, text, want string }{
		{"*a *b", "abcde", "0"},
		{"*a *b", "abcdef", "90"},
		{"*a *b b+abc", "de", "0"},
		{"*a *b b+abc", "def", "90"},
		{"*a *b b+abc b. .", "de", "0"}, // what is durable counts as well
		{"*a *b b+abc b. .", "def", "90"},
		{"*a *b a+abc b+de", "", "0"},
		{"*a *b a+abc b+de", "f", "90"},
		{"*a a+abc a>b a>c", "de", "0"}, // once, however many names there are
		{"*a a+abc a>b a>c", "def", "90"},
		{"*a a+abcdef", "ghijk", "0"}, // what found no room took none
		{"*a *b b+abc -b", "de", "0"}, // the Unlink is pending
		{"*a *b b+abc -b", "def", "90"},
		{"*a *b b+abc -b .", "defgh", "0"},
		{"*a *b b+abc -b .", "defghi", "90"},
		{"*a *b b+abc b>c -b .", "def", "90"},
		{"*a *b b+abc b>c -b . -c", "def", "90"},
		{"*a *b b+abc b>c -b . -c .", "def", "0"},
		{"*a *b b+abc b. -b !9:", "defgh", "0"}, // a power failure lets it go as well
		{"*a *b b+abc b. -b !2:", "def", "90"},
	} {
		f, w := both(t, 5, 3, x.row)
		if got := answers(f, "a+"+x.text); got != x.want {
			t.Fatalf("%s, then %s: %s; want %s", x.row, x.text, got, x.want)
		}
		w.do(steps("a+" + x.text)[0].call)
		check(t, x.row+", then "+x.text, f, w)
	}
}

// P10.1: so many names may be; below 0: 0. What is pending is as it is now.
func TestQuotaOfNames(t *testing.T) {
	for quota := -3; quota <= 6; quota++ {
		f := folder.New(9, quota)
		for n := range 9 {
			want := api.OK
			if n >= max(quota, 0) {
				want = api.ErrSpace
			}
			c := folder.Call{Kind: folder.Create, Name: string(rune('a' + n))}
			if n > 0 && n%2 == 0 {
				c = folder.Call{Kind: folder.Link, Name: "a", To: c.Name}
			}
			if r := f.Do(c); r.Err != want && quota > 0 {
				t.Fatalf("quota %d, %d names: %v; want %v", quota, n, r.Err, want)
			}
		}
		if got := len(f.Files()); got != max(quota, 0) {
			t.Fatalf("quota %d: %d names", quota, got)
		}
	}
	for _, x := range []struct{ row, then, want string }{
		{"*a", "*b *c", "0 90"},
		{"*a", "a>b a>c", "0 90"},
		{"*a *b", "*c a>c", "90 90"},
		{"*a *b -a", "*c *d", "0 90"},
		{"*a *b -a", "b>c b>d", "0 90"},
		{"*a *b -a -b", "*c *d *e", "0 0 90"},
		{"*a *b . -a", "*c *d", "0 90"},
		{"*a *b . -a !0:", "*c", "90"}, // the Unlink never happened
		{"*a *b . -a !1:", "*c *d", "0 90"},
		{"*a . *b !0:", "*c *d", "0 90"}, // the Create never happened
		{"*a . *b !1:", "*c", "90"},
		{"*a . a>b !0:", "a>c *d", "0 90"},
		{"*a *b !1:", "*c *d", "0 90"},
		{"*a *b !0:", "*c *d *e", "0 0 90"},
		{"*a *b *c a>d *c", "-a *c *d", "0 0 90"}, // what found no room took none
	} {
		f := made(t, 9, 2, x.row)
		if got := answers(f, x.then); got != x.want {
			t.Fatalf("%s, then %s: %s; want %s", x.row, x.then, got, x.want)
		}
	}
}

// P10.1: the errors of each kind, in order.
func TestErrors(t *testing.T) {
	for _, x := range []struct {
		entries   int
		row, then string
		want      string
	}{
		{3, "*a *b", "*_ *a *c *d", "2 81 0 90"},
		{2, "*a *b", "*_ *a *c", "2 81 90"}, // what is wrong with the name is ahead of there being no room
		{0, "", "*_ *a", "2 90"},
		{3, "*a", "b+x _+x a+x a+012345678 a+0123456789 b+0123456789 _+0123456789", "80 80 0 0 90 80 80"},
		{3, "*a", "b+ _+ a+", "80 80 0"},
		{3, "*a", "a. b. _.", "0 80 80"},
		{3, "*a", ". .", "0 0"},
		{0, "", ". ?", "0 0"},
		{2, "*a *b", "c>_ c>c c>a c>d _>_ _>a a>_ a>a a>b b>a a>c", "80 80 80 80 80 80 2 81 81 81 90"},
		{3, "*a *b", "c>d a>_ a>a a>b a>c c>d", "80 2 81 81 0 90"},
		{3, "*a", "-b -_ -a -a", "80 80 0 80"},
		{3, "*a", "? ?a ?b ?_", "0 0 80 80"},
	} {
		f := made(t, 10, x.entries, x.row)
		if got := answers(f, x.then); got != x.want {
			t.Fatalf("%s, then %s: %s; want %s", x.row, x.then, got, x.want)
		}
	}
}

// P10.1: of any other kind, whatever else the call tells, and whatever the folder has.
func TestOtherKinds(t *testing.T) {
	for kind := range 256 {
		if kind >= 1 && kind <= 8 {
			continue
		}
		f, w := both(t, 10, 3, "*a a+xy . *b -a")
		for _, c := range []folder.Call{{}, {Name: "a"}, {Name: "b"}, {Name: "x"}, {Name: "b", To: "c"}, {Name: "b", Bytes: []byte("x")}, {Bytes: make([]byte, 99)}} {
			c.Kind = uint8(kind)
			if r := f.Do(c); !reflect.DeepEqual(r, folder.Result{Err: api.ErrArg}) {
				t.Fatalf("%+v: %+v", c, r)
			}
		}
		check(t, fmt.Sprint(kind), f, w)
	}
}

// P10.1: what a kind does not tell of counts for nothing.
func TestWhatAKindDoesNotTellOf(t *testing.T) {
	names := []string{"", "a", "b", "c", "d"}
	for kind := folder.Create; kind <= folder.Read; kind++ {
		tells := map[uint8]string{folder.Create: "n", folder.Write: "nb", folder.Fsync: "n", folder.Link: "nt", folder.Unlink: "n", folder.Read: "n"}[kind]
		for _, name := range names {
			for _, to := range names {
				for _, b := range []string{"", "x", "0123456789"} {
					c := folder.Call{Kind: kind, Name: name, To: to, Bytes: []byte(b)}
					bare := folder.Call{Kind: kind}
					if strings.Contains(tells, "n") {
						bare.Name = name
					}
					if strings.Contains(tells, "t") {
						bare.To = to
					}
					if strings.Contains(tells, "b") {
						bare.Bytes = c.Bytes
					}
					f, w := both(t, 10, 3, "*a a+xy . a>b *c -a")
					if got, want := f.Do(c), w.do(bare); !same(got, want) {
						t.Fatalf("%+v: %+v; want %+v", c, got, want)
					}
					check(t, fmt.Sprint(c), f, w)
				}
			}
		}
	}
}

// P10.1: a call that fails changes nothing, and answers nothing but its error; all others answer only what their kind does.
func TestAnswersHaveNothingElse(t *testing.T) {
	names := []string{"", "a", "b", "c", "d"}
	for _, row := range []string{"", "*a", "*a a+xy", "*a a+xy . a>b *c -a", "*a *b *c c+0123456789", "*a a+xy a. . -a"} {
		for kind := range 11 {
			for _, name := range names {
				for _, to := range names {
					for _, b := range []string{"", "x", "0123456789"} {
						f, w := both(t, 10, 3, row)
						c := folder.Call{Kind: uint8(kind), Name: name, To: to, Bytes: []byte(b)}
						r := f.Do(c)
						if r.Err != api.OK {
							check(t, fmt.Sprintf("%s, then %+v", row, c), f, w)
						}
						if r.Names != nil && (r.Err != api.OK || c.Kind != folder.Readdir) || r.Bytes != nil && (r.Err != api.OK || c.Kind != folder.Read) {
							t.Fatalf("%+v: %+v", c, r)
						}
					}
				}
			}
		}
	}
}

// P10.1: there is that name, of a new file without bytes.
func TestCreate(t *testing.T) {
	f := made(t, 10, 9, "*a a+xy a. . -a *a")
	has(t, "a new one", f, "a", 2, 0, 2)
	answers(f, "a+z")
	has(t, "it has bytes of its own", f, "a z", 2, 1, 3)
	answers(f, ".")
	has(t, "the old one goes", f, "a z", 0, 1, 1)
	for _, name := range []string{"a", "\x00", "\xff", "/", "..", " ", "ä", strings.Repeat("long", 1000)} {
		f := folder.New(10, 9)
		if r := f.Do(folder.Call{Kind: folder.Create, Name: name}); r.Err != api.OK {
			t.Fatalf("%q: %v", name, r.Err)
		}
		if r := f.Do(folder.Call{Kind: folder.Readdir}); !slices.Equal(r.Names, []string{name}) {
			t.Fatalf("%q", r.Names)
		}
		if r := f.Do(folder.Call{Kind: folder.Read, Name: name}); r.Err != api.OK || len(r.Bytes) != 0 {
			t.Fatalf("%q: %+v", name, r)
		}
		if r := f.Do(folder.Call{Kind: folder.Create, Name: name}); r.Err != api.ErrExist {
			t.Fatalf("%q: %v", name, r.Err)
		}
	}
}

// P10.1: bytes stand at the end, and are volatile.
func TestWriteAndRead(t *testing.T) {
	has(t, "two files", made(t, 100, 9, "*a *b a+x b+yz a+ a+123"), "a x123, b yz", 2, 3, 6)
	all := make([]byte, 256)
	for i := range all {
		all[i] = byte(i)
	}
	f := made(t, 1<<20, 9, "*a *b")
	for n := 1; n < 10; n++ {
		if r := f.Do(folder.Call{Kind: folder.Write, Name: "b", Bytes: all}); !reflect.DeepEqual(r, folder.Result{}) {
			t.Fatalf("%+v", r)
		}
		if r := f.Do(folder.Call{Kind: folder.Read, Name: "b"}); r.Err != api.OK || !bytes.Equal(r.Bytes, bytes.Repeat(all, n)) {
			t.Fatalf("%d times: %v, %d bytes", n, r.Err, len(r.Bytes))
		}
	}
}

// P10.1: Fsync makes all durable that the file has, and nothing else; a name's file is synced by its other name as well.
func TestFsync(t *testing.T) {
	for _, x := range []struct {
		row, want string
		volatile  int
		left      string
	}{
		{"*a a+x a+y *b b+z .", "a xy, b z", 3, "a, b"},
		{"*a a+x a+y *b b+z . a.", "a xy, b z", 1, "a xy, b"},
		{"*a a+x a+y *b b+z . b.", "a xy, b z", 2, "a, b z"},
		{"*a a+x a+y *b b+z . a. b. a+w", "a xyw, b z", 1, "a xy, b z"},
		{"*a a+x a>b b+y . b.", "a xy, b xy", 0, "a xy, b xy"},
		{"*a a. a+x .", "a x", 1, "a"},
		{"*a a+x a. a. .", "a x", 0, "a x"},
	} {
		f := made(t, 100, 9, x.row)
		if got := text(f.Files()); got != x.want || f.Volatile() != x.volatile {
			t.Fatalf("%s: %q, %d", x.row, got, f.Volatile())
		}
		f.Power(0)
		if got := text(f.Files()); got != x.left || f.Volatile() != 0 {
			t.Fatalf("%s, failed: %q, %d", x.row, got, f.Volatile())
		}
	}
}

// P10.1: no operation of the directory is pending any more; it makes no bytes durable.
func TestFsyncDir(t *testing.T) {
	f := made(t, 100, 9, "*a a+x a>b -a *c .")
	has(t, "settled", f, "b x, c", 0, 1, 1)
	f.Power(0)
	has(t, "failed", f, "b, c", 0, 0, 0)
	f = made(t, 100, 9, "*a . *b a. !0:")
	has(t, "Fsync is none", f, "a", 0, 0, 0)
}

// P10.1: the name To is of the same file.
func TestLink(t *testing.T) {
	f := made(t, 100, 9, "*a a+x a>b b>c c+y")
	has(t, "three names", f, "a xy, b xy, c xy", 3, 2, 2)
	answers(f, "-a . b+z")
	has(t, "two", f, "b xyz, c xyz", 0, 3, 3)
	answers(f, "-b *b b+w .")
	has(t, "another file's name", f, "b w, c xyz", 0, 4, 4)
	answers(f, "-c c>a . b>c")
	has(t, "of nothing there is no other name", f, "b w, c w", 1, 1, 1)
}

// P10.1: a file with no name any more stays as long as an Unlink that took one from it is pending.
func TestUnlink(t *testing.T) {
	for _, x := range []struct {
		row, want               string
		pending, volatile, used int
	}{
		{"*a a+xy -a", "", 2, 1, 2},
		{"*a a+xy -a .", "", 0, 0, 0},
		{"*a a+xy . -a", "", 1, 1, 2},
		{"*a a+xy a. . -a", "", 1, 0, 2},
		{"*a a+xy . -a .", "", 0, 0, 0},
		{"*a a+xy . -a !0:1", "a xy", 0, 0, 2},
		{"*a a+xy . -a !1:1", "", 0, 0, 0},
		{"*a a+xy . a>b -a .", "b xy", 0, 1, 2},
		{"*a a+xy . a>b -a . -b", "", 1, 1, 2},
		{"*a a+xy . a>b -a . -b .", "", 0, 0, 0},
		{"*a a+xy . a>b -a -b", "", 3, 1, 2},
		{"*a a+xy . a>b -a -b b>c a>c .", "", 0, 0, 0},
		{"*a a+xy a>b . -a b>a -b a>b -a", "b xy", 5, 1, 2},
		{"*a a+xy a>b . -a b>a -b a>b -a .", "b xy", 0, 1, 2},
		{"*a a+xy . -a *a a+z", "a z", 2, 2, 3},
		{"*a a+xy . -a *a a+z -a", "", 3, 2, 3},
		{"*a a+xy . -a *a a+z -a .", "", 0, 0, 0},
	} {
		has(t, x.row, made(t, 100, 9, x.row), x.want, x.pending, x.volatile, x.used)
	}
}

// P10.1: Readdir tells all names, in the order of their bytes.
func TestReaddir(t *testing.T) {
	names := []string{"a", "B", "aa", "\xff", "\x00", "b", "10", "9", "a\x00", "ä", "z", "s-1-2", "s-1-10"}
	r := rand.New(rand.NewSource(1))
	for range 100 {
		f := folder.New(9, 99)
		var want []string
		for _, at := range r.Perm(len(names))[:r.Intn(len(names)+1)] {
			f.Do(folder.Call{Kind: folder.Create, Name: names[at]})
			want = append(want, names[at])
		}
		slices.Sort(want)
		if got := f.Do(folder.Call{Kind: folder.Readdir}); got.Err != api.OK || !slices.Equal(got.Names, want) {
			t.Fatalf("%q; want %q", got.Names, want)
		}
		var got []string
		for _, x := range f.Files() { // P10.2: Files in that order as well
			got = append(got, x.Name)
		}
		if !slices.Equal(got, want) {
			t.Fatalf("%q; want %q", got, want)
		}
	}
}

// P10.2: the first operations of the directory stay, as many as are told; below 0: none; above all: all.
func TestPowerOps(t *testing.T) {
	row := "*a a+1 a. *b b+2 b. . *c a>d -b -d *b"
	for ops, want := range []string{"a 1, b 2", "a 1, b 2, c", "a 1, b 2, c, d 1", "a 1, c, d 1", "a 1, c", "a 1, b, c"} {
		f := made(t, 100, 9, row)
		f.Power(ops)
		used := 2
		if ops > 2 {
			used = 1
		}
		has(t, fmt.Sprint(ops), f, want, 0, 0, used)
	}
	for ops, want := range map[int]string{-1: "a 1, b 2", math.MinInt: "a 1, b 2", 6: "a 1, b, c", math.MaxInt: "a 1, b, c"} {
		f := made(t, 100, 9, row)
		f.Power(ops)
		if got := text(f.Files()); got != want {
			t.Fatalf("%d: %q; want %q", ops, got, want)
		}
	}
}

// P10.2: of the volatile parts of all files, as they were made, those stay that are told.
func TestPowerKeep(t *testing.T) {
	for keep, want := range map[string]string{
		// c was made first, then b, then a, which goes; a's and then b's parts are of a name that means another file now.
		"":        "b, c p",
		"0000000": "b, c p",
		"1":       "b, c pq",
		"01":      "b, c p0r",
		"11":      "b, c pqr",
		"001":     "b s, c p",
		"0001":    "b 0t, c p",
		"0011":    "b st, c p",
		"00001":   "b, c p",
		"1010100": "b s, c pq",
		"1111":    "b st, c pqr",
		"1111111": "b st, c pqr",
	} {
		f := made(t, 100, 9, "*c *b *a c+p c. a+u c+q b+s a+v c+r b+t . -a")
		f.Power(1, bits(keep)...)
		has(t, keep, f, want, 0, 0, f.Used())
		if n := len(strings.NewReplacer(",", "", " ", "", "b", "", "c", "").Replace(want)); f.Used() != n {
			t.Fatalf("%s: %d used; want %d", keep, f.Used(), n)
		}
	}
}

// P10.2: files without names are gone, and all that stays is durable.
func TestPowerLeavesAllDurable(t *testing.T) {
	f := made(t, 100, 9, "*a a+x *b b+y b>c -b !2:11")
	has(t, "failed", f, "a x, b y", 0, 0, 2)
	f.Power(0)
	has(t, "again", f, "a x, b y", 0, 0, 2)
	f = made(t, 100, 9, "*a a+x *b b+y b>c -b !1:11")
	has(t, "b's file is gone", f, "a x", 0, 0, 1)
	f = made(t, 100, 9, "*a a+x a. !0:")
	has(t, "a's is", f, "", 0, 0, 0)
	answers(f, "*a a+z")
	has(t, "a new one", f, "a z", 1, 1, 1)
}

// P10.2: all names, each with its file's content.
func TestFiles(t *testing.T) {
	f := made(t, 100, 9, "*b b+x *a b>c c+y *d -d")
	want := []folder.File{{Name: "a", Bytes: []byte{}}, {Name: "b", Bytes: []byte("xy")}, {Name: "c", Bytes: []byte("xy")}}
	if got := f.Files(); !reflect.DeepEqual(got, want) {
		t.Fatalf("%v", got)
	}
	if got := folder.New(1, 1).Files(); len(got) != 0 {
		t.Fatalf("%v", got)
	}
}

// P10.2
func TestPending(t *testing.T) {
	for row, want := range map[string]int{
		"": 0, "*a": 1, "*a *a": 1, "*_": 0, "*a a>b": 2, "*a a>_": 1, "*a -a": 2, "*a -b": 1, "*a a+x a. ? ?a": 1, "*a a>b -a .": 0, "*a . *b": 1, "*a *b !1:": 0, "*a *b !9:": 0, "*a *b !9: *c": 1,
	} {
		if got := made(t, 9, 9, row).Pending(); got != want {
			t.Fatalf("%s: %d; want %d", row, got, want)
		}
	}
}

// P10.2
func TestWord(t *testing.T) {
	want := []string{"", "create", "write", "fsync", "fsyncdir", "link", "unlink", "readdir", "read"}
	for kind := range 256 {
		word := ""
		if kind < len(want) {
			word = want[kind]
		}
		if got := folder.Word(uint8(kind)); got != word {
			t.Fatalf("%d: %q; want %q", kind, got, word)
		}
	}
	for i, kind := range []uint8{folder.Create, folder.Write, folder.Fsync, folder.FsyncDir, folder.Link, folder.Unlink, folder.Readdir, folder.Read} {
		if int(kind) != i+1 {
			t.Fatalf("%d; want %d", kind, i+1)
		}
	}
}

// Ahead of the promises: of a nil folder.
func TestNilFolder(t *testing.T) {
	var f *folder.Folder
	for kind := range 256 { // ErrNil is ahead of ErrArg
		for _, c := range []folder.Call{{}, {Name: "a"}, {Name: "a", To: "b", Bytes: []byte("x")}} {
			c.Kind = uint8(kind)
			if r := f.Do(c); !reflect.DeepEqual(r, folder.Result{Err: api.ErrNil}) {
				t.Fatalf("%+v: %+v", c, r)
			}
		}
	}
	f.Power(0)
	f.Power(5, true, false)
	if f.Files() != nil || f.Pending() != 0 || f.Volatile() != 0 || f.Used() != 0 {
		t.Fatalf("%v, %d, %d, %d", f.Files(), f.Pending(), f.Volatile(), f.Used())
	}
}

// Ahead of the promises: a folder made by hand has no names, and the quotas 0.
func TestFolderMadeByHand(t *testing.T) {
	w := newWords(0, 0)
	check(t, "made by hand", new(folder.Folder), w)
	each(2, steps("*a *_ a+x a+ a. . a>b -a ? ?a !0: !9:11"), func(l []step) {
		f, w := new(folder.Folder), newWords(0, 0)
		run(t, f, w, l...)
		check(t, fmt.Sprint(l), f, w)
	})
}

// P10.3: what lies in the calls' bytes, and behind their length, is only read, and not kept.
func TestWhatIsHandedIn(t *testing.T) {
	memory := []byte("abcdefgh")
	f := made(t, 100, 9, "*a")
	for range 3 {
		for kind := range 10 {
			f.Do(folder.Call{Kind: uint8(kind), Name: "a", To: "b", Bytes: memory[2:4]})
		}
		answers(f, "*a a+z")
	}
	f.Do(folder.Call{Kind: folder.Write, Name: "a", Bytes: memory[2:4]})
	f.Do(folder.Call{Kind: folder.Write, Name: "a", Bytes: []byte("xyz")})
	if string(memory) != "abcdefgh" {
		t.Fatalf("%q", memory)
	}
	want := text(f.Files())
	copy(memory, "--------")
	if got := text(f.Files()); got != want {
		t.Fatalf("%q; want %q", got, want)
	}
	keep := bits("0101")
	f.Power(9, keep[:2]...)
	if !slices.Equal(keep, bits("0101")) {
		t.Fatal(keep)
	}
}

// spoil writes over bytes, and behind their length.
func spoil(b []byte) {
	b = b[:cap(b)]
	for i := range b {
		b[i] = '#'
	}
}

// spoilNames writes over names, and behind their length.
func spoilNames(l []string) {
	l = l[:cap(l)]
	for i := range l {
		l[i] = "#"
	}
}

// P10.3: what is answered is new memory, and shares none with another answer, or within itself.
func TestWhatIsAnswered(t *testing.T) {
	row := "*a a+xy a. a>b *c . c+z -c *d a+w"
	for _, then := range []string{"", "!9:", "!9:11", ".", "a+v"} {
		f, w := both(t, 100, 9, row+" "+then)
		for _, name := range []string{"a", "b", "c", "d"} {
			one, other := f.Do(folder.Call{Kind: folder.Read, Name: name}), f.Do(folder.Call{Kind: folder.Read, Name: name})
			want := string(other.Bytes)
			spoil(one.Bytes)
			if string(other.Bytes) != want {
				t.Fatalf("%s: %q; want %q", name, other.Bytes, want)
			}
		}
		one, other := f.Do(folder.Call{Kind: folder.Readdir}), f.Do(folder.Call{Kind: folder.Readdir})
		spoilNames(one.Names)
		if !slices.Equal(other.Names, w.sorted()) {
			t.Fatalf("%q", other.Names)
		}
		files, others := f.Files(), f.Files()
		for i := range files {
			spoil(files[i].Bytes)
			for j := i + 1; j < len(files); j++ { // a's and b's file is the same
				if !bytes.Equal(files[j].Bytes, others[j].Bytes) {
					t.Fatalf("%q; want %q", files[j].Bytes, others[j].Bytes)
				}
			}
		}
		clear(files[:cap(files)])
		if got := text(others); got != w.text() {
			t.Fatalf("%q; want %q", got, w.text())
		}
		check(t, then, f, w)
		run(t, f, w, steps("a+1 a. a+2 !0:")...)
		check(t, then+", failed", f, w)
	}
}

const long = 1 << 25

// inUse is how many bytes somebody still has.
func inUse() int64 {
	var m runtime.MemStats
	runtime.GC()
	runtime.ReadMemStats(&m)
	return int64(m.HeapAlloc)
}

// P10.3: of what is handed in no more is kept than its copies.
func TestNothingElseIsKept(t *testing.T) {
	for what, call := range map[string]func(f *folder.Folder){
		"Create": func(f *folder.Folder) {
			f.Do(folder.Call{Kind: folder.Create, Name: strings.Repeat("n", long)[:1], To: strings.Repeat("t", long), Bytes: make([]byte, long)})
		},
		"Write": func(f *folder.Folder) {
			f.Do(folder.Call{Kind: folder.Write, Name: "a", Bytes: make([]byte, long)[:1]})
		},
		"Link": func(f *folder.Folder) {
			f.Do(folder.Call{Kind: folder.Link, Name: "a", To: strings.Repeat("t", long)[:1]})
		},
		"Unlink": func(f *folder.Folder) {
			f.Do(folder.Call{Kind: folder.Unlink, Name: strings.Repeat("a", long)[:1]})
		},
		"failing": func(f *folder.Folder) {
			f.Do(folder.Call{Kind: folder.Create, Name: strings.Repeat("a", long)[:1]})
			f.Do(folder.Call{Kind: folder.Write, Name: "a", Bytes: make([]byte, long)})
		},
		"other kinds": func(f *folder.Folder) {
			for _, kind := range []uint8{0, folder.Fsync, folder.FsyncDir, folder.Readdir, folder.Read, 9} {
				f.Do(folder.Call{Kind: kind, Name: strings.Repeat("a", long)[:1], To: strings.Repeat("t", long), Bytes: make([]byte, long)})
			}
		},
		"Power": func(f *folder.Folder) { f.Power(9, make([]bool, long)...) },
	} {
		f := made(t, 100, 9, "*a a+x a>b . *c")
		before := inUse()
		call(f)
		if more := inUse() - before; more > long/2 {
			t.Errorf("%s: %d bytes more are kept", what, more)
		}
		runtime.KeepAlive(f)
	}
}

// P10.1: what is gone is kept no more, and of a call that fails nothing is.
func TestWhatIsGoneIsNotKept(t *testing.T) {
	for _, row := range []string{"*a a+x a>b -a -b .", "*a a+x a. . -a .", "*a a+x !0:1", "*a a+x a. . -a !1:", "*a *a *_ *b *c a>b a>_ a>c -b -a -a ."} {
		f := folder.New(100, 2)
		l := steps(row)
		again := func(times int) {
			for range times {
				for _, s := range l {
					if s.power {
						f.Power(s.ops, s.keep...)
					} else {
						f.Do(s.call)
					}
				}
			}
		}
		again(1000)
		before := inUse()
		again(20000)
		if more := inUse() - before; more > 1<<18 {
			t.Errorf("%s: %d bytes more are kept", row, more)
		}
		has(t, row, f, "", 0, 0, 0)
	}
}

// P10.1 to P10.4: all short rows of calls.
func TestAllShortRows(t *testing.T) {
	each(4, steps("*a *b a+x b+yz a. . a>b b>a a>c -a -b !0: !1:01"), func(l []step) {
		f, w := both(t, 3, 2, "")
		run(t, f, w, l...)
		check(t, fmt.Sprint(l), f, w)
	})
}

// P10.2 to P10.4: all short rows of calls, and all that may stay behind them; a failure behind a failure takes nothing.
func TestAllShortRowsFail(t *testing.T) {
	for _, begin := range []string{"", "*a a+pq a. . a+r *b b+s", "*a a+p a>c a. . -a", "*b b+p b. *a . -b"} {
		most := 3
		if begin != "" {
			most = 2
		}
		each(most, steps("*a *b a+x b+y a. . a>b b>a -a -b"), func(l []step) {
			_, at := both(t, 9, 3, begin)
			for _, s := range l {
				at.do(s.call)
			}
			for _, x := range failures(at) {
				f, w := both(t, 9, 3, begin)
				run(t, f, w, l...)
				x.do(t, f, w)
				what := fmt.Sprintf("%s, %v, %v", begin, l, x)
				check(t, what, f, w)
				want := text(f.Files())
				f.Power(0)
				has(t, what+", again", f, want, 0, 0, w.used())
				run(t, f, w, steps("*a a+z b>a -b . a+w")...) // and it goes on as ever
				check(t, what+", gone on with", f, w)
			}
		})
	}
}

// anyStep is any call of a few names, or a power failure.
func anyStep(r *rand.Rand, w *words) step {
	names := []string{"", "a", "b", "c", "d", "e"}
	if r.Intn(30) == 0 {
		x := step{power: true, ops: r.Intn(w.pending()+3) - 1}
		for range r.Intn(w.volatile() + 2) {
			x.keep = append(x.keep, r.Intn(2) == 0)
		}
		return x
	}
	c := folder.Call{Kind: uint8(r.Intn(10)), Name: names[r.Intn(len(names))], To: names[r.Intn(len(names))], Bytes: make([]byte, r.Intn(5))}
	if c.Kind == folder.FsyncDir && r.Intn(3) > 0 { // or nothing is ever pending for long
		c.Kind = folder.Link
	}
	r.Read(c.Bytes)
	return step{call: c}
}

// P10.1 to P10.4: long rows of any calls.
func TestLongRows(t *testing.T) {
	for seed := range int64(300) {
		r := rand.New(rand.NewSource(seed))
		f, w := both(t, r.Intn(40), r.Intn(7), "")
		for n := range 300 {
			s := anyStep(r, w)
			s.do(t, f, w)
			check(t, fmt.Sprintf("seed %d, step %d, %+v", seed, n, s), f, w)
		}
	}
}

// P10.4: what was fsynced, and whose name was there ahead of an FsyncDir, has its bytes behind any power failure, if no Unlink took the name.
func TestSyncedBytesStay(t *testing.T) {
	for _, row := range []string{"*a a+xy a. .", "*a a+xy . a.", "*a . a+xy a.", "*b b+xy b>a . b. -b", "*c . c>a . a+xy c. -c ."} {
		each(3, steps("a+z *b b+w b. -b . a>b -c a>c"), func(l []step) {
			_, at := both(t, 20, 3, row)
			for _, s := range l {
				at.do(s.call)
			}
			for _, x := range failures(at) {
				f := made(t, 20, 3, row)
				for _, s := range l {
					f.Do(s.call)
				}
				f.Power(x.ops, x.keep...)
				if r := f.Do(folder.Call{Kind: folder.Read, Name: "a"}); r.Err != api.OK || !bytes.HasPrefix(r.Bytes, []byte("xy")) {
					t.Fatalf("%s, %v, %v: %v, %q", row, l, x, r.Err, r.Bytes)
				}
			}
		})
	}
}

// P10.4: two names of one file have the same content; there are never more names, nor bytes, than may be.
func TestWhatFollows(t *testing.T) {
	for seed := range int64(200) {
		r := rand.New(rand.NewSource(seed))
		quotaBytes, entries := r.Intn(40), r.Intn(7)
		f, w := both(t, quotaBytes, entries, "")
		for n := range 300 {
			s := anyStep(r, w)
			before := f.Used()
			s.do(t, f, w)
			l := f.Files()
			if len(l) > entries || f.Used() > quotaBytes || s.power && f.Used() > before {
				t.Fatalf("seed %d, step %d: %d names, %d bytes", seed, n, len(l), f.Used())
			}
			content := map[int]string{}
			for _, x := range l {
				at := w.names()[x.Name]
				if have, ok := content[at]; ok && have != string(x.Bytes) {
					t.Fatalf("seed %d, step %d: %q and %q", seed, n, have, x.Bytes)
				}
				content[at] = string(x.Bytes)
			}
		}
	}
}

// P10.1: many names cost no more than a few moments.
func TestManyNames(t *testing.T) {
	const many = 20000
	f := folder.New(0, many)
	for n := range many {
		c := folder.Call{Kind: folder.Create, Name: fmt.Sprint(n)}
		if n%2 == 1 {
			c = folder.Call{Kind: folder.Link, Name: fmt.Sprint(n - 1), To: c.Name}
		}
		if r := f.Do(c); r.Err != api.OK {
			t.Fatal(n, r.Err)
		}
	}
	if r := f.Do(folder.Call{Kind: folder.Create, Name: "x"}); r.Err != api.ErrSpace {
		t.Fatal(r.Err)
	}
	f.Power(many - 1)
	if r := f.Do(folder.Call{Kind: folder.Readdir}); len(r.Names) != many-1 {
		t.Fatal(len(r.Names))
	}
}
