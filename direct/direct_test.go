package direct_test

import (
	"fmt"
	"maps"
	"math"
	"math/rand"
	"runtime"
	"slices"
	"strings"
	"testing"

	"chartroom/api"
	"chartroom/direct"
)

// listed are names in the order of their bytes.
func listed(names map[string]int) []direct.Entry {
	var l []direct.Entry
	for _, name := range slices.Sorted(maps.Keys(names)) {
		l = append(l, direct.Entry{Name: name, Ino: names[name]})
	}
	return l
}

// words is a directory by the chapter's words: its names as they were at the last Sync or Fail, and as they were behind each operation since then.
type words struct{ then []map[string]int }

func newWords() *words { return &words{[]map[string]int{{}}} }

func (w *words) now() map[string]int { return w.then[len(w.then)-1] }

func (w *words) pending() int { return len(w.then) - 1 }

func (w *words) add(name string, ino int) api.Errno {
	if name == "" || ino < 0 {
		return api.ErrArg
	}
	if _, ok := w.now()[name]; ok {
		return api.ErrExist
	}
	next := maps.Clone(w.now())
	next[name] = ino
	w.then = append(w.then, next)
	return api.OK
}

func (w *words) remove(name string) (int, api.Errno) {
	ino, ok := w.now()[name]
	if !ok {
		return 0, api.ErrNone
	}
	next := maps.Clone(w.now())
	delete(next, name)
	w.then = append(w.then, next)
	return ino, api.OK
}

func (w *words) sync() { w.then = w.then[w.pending():] }

func (w *words) fail(keep int) {
	switch {
	case keep < 0:
		keep = 0
	case keep > w.pending():
		keep = w.pending()
	}
	w.then = w.then[keep : keep+1]
}

func (w *words) copied() *words { return &words{slices.Clone(w.then)} }

// step is a call, to a directory and to its words; both must answer the same.
type step struct {
	kind string
	name string
	n    int
}

func (s step) do(t *testing.T, d *direct.Dir, w *words) {
	t.Helper()
	switch s.kind {
	case "add":
		if got, want := d.Add(s.name, s.n), w.add(s.name, s.n); got != want {
			t.Fatalf("%v: %v; want %v", s, got, want)
		}
	case "remove":
		ino, e := d.Remove(s.name)
		if wantIno, want := w.remove(s.name); ino != wantIno || e != want {
			t.Fatalf("%v: %d, %v; want %d, %v", s, ino, e, wantIno, want)
		}
	case "sync":
		d.Sync()
		w.sync()
	case "fail":
		d.Fail(s.n)
		w.fail(s.n)
	}
}

// steps is a row of calls: +a1 is Add(a, 1), -a is Remove(a), . is Sync, !3 is Fail(3).
func steps(text string) (l []step) {
	for _, s := range strings.Fields(text) {
		var x step
		switch s[0] {
		case '+':
			x = step{kind: "add", name: s[1:2]}
			fmt.Sscan(s[2:], &x.n)
		case '-':
			x = step{kind: "remove", name: s[1:]}
		case '.':
			x = step{kind: "sync"}
		case '!':
			x = step{kind: "fail"}
			fmt.Sscan(s[1:], &x.n)
		}
		l = append(l, x)
	}
	return l
}

// both is a directory on which these calls were done, and its words.
func both(t *testing.T, l ...step) (*direct.Dir, *words) {
	t.Helper()
	d, w := direct.New(), newWords()
	for _, s := range l {
		s.do(t, d, w)
	}
	return d, w
}

func made(t *testing.T, text string) *direct.Dir {
	t.Helper()
	d, _ := both(t, steps(text)...)
	return d
}

// asked are names for which check asks, beside those that are there.
var asked = []string{"", "a", "b", "c", "x", "a\x00", "ab", "\xff"}

// check holds all that a directory answers against its words.
func check(t *testing.T, what string, d *direct.Dir, w *words) {
	t.Helper()
	if got, want := d.List(), listed(w.now()); !slices.Equal(got, want) {
		t.Fatalf("%s: List %v; want %v", what, got, want)
	}
	if got := d.Pending(); got != w.pending() {
		t.Fatalf("%s: Pending %d; want %d", what, got, w.pending())
	}
	for _, name := range append(slices.Collect(maps.Keys(w.now())), asked...) {
		ino, ok := d.Get(name)
		want, wantOk := w.now()[name]
		if ino != want || ok != wantOk {
			t.Fatalf("%s: Get(%q) %d, %v; want %d, %v", what, name, ino, ok, want, wantOk)
		}
	}
}

// has holds a directory's names against these, told as a1 b2, and how many operations are pending.
func has(t *testing.T, what string, d *direct.Dir, text string, pending int) {
	t.Helper()
	var l []string
	for _, x := range d.List() {
		l = append(l, fmt.Sprint(x.Name, x.Ino))
	}
	if got := strings.Join(l, " "); got != text || d.Pending() != pending {
		t.Fatalf("%s: %q, %d pending; want %q, %d", what, got, d.Pending(), text, pending)
	}
}

// each goes over all rows of up to most of l's items.
func each[T any](most int, l []T, do func([]T)) {
	var grow func([]T)
	grow = func(have []T) {
		do(have)
		if len(have) == most {
			return
		}
		for _, x := range l {
			grow(append(slices.Clone(have), x))
		}
	}
	grow(nil)
}

// P8.1
func TestNew(t *testing.T) {
	d, other := direct.New(), direct.New()
	check(t, "New", d, newWords())
	d.Add("a", 1)
	check(t, "another one", other, newWords())
	check(t, "a later one", direct.New(), newWords())
}

// P8.1: a directory made by hand has no names, and may have some.
func TestDirMadeByHand(t *testing.T) {
	check(t, "made by hand", new(direct.Dir), newWords())
	for _, text := range []string{"+a1", "-a", ".", "!0", "!1", "+a1 +b2 -a !1", "+a1 . -a !0"} {
		d, w := new(direct.Dir), newWords()
		for _, s := range steps(text) {
			s.do(t, d, w)
		}
		check(t, text, d, w)
		check(t, text+", a copy of none", new(direct.Dir).Copy(), newWords())
	}
	d := new(direct.Dir).Copy()
	if e := d.Add("a", 1); e != api.OK {
		t.Fatal(e)
	}
	has(t, "a copy", d, "a1", 1)
}

// P8.1: any name that is not empty, and any number from 0 on.
func TestAdd(t *testing.T) {
	d := direct.New()
	want := map[string]int{}
	for i, name := range []string{"a", "b", "a\x00", "\x00", " ", "A", "ab", "\xff", "\xc3\x28", "é", "s-1-2", ".", "..", "/", strings.Repeat("x", 100000)} {
		if e := d.Add(name, i); e != api.OK {
			t.Fatalf("%q: %v", name, e)
		}
		want[name] = i
		if d.Pending() != i+1 {
			t.Fatalf("%q: %d pending", name, d.Pending())
		}
	}
	if e := d.Add("huge", math.MaxInt); e != api.OK {
		t.Fatal(e)
	}
	if e := d.Add("same number", 1); e != api.OK {
		t.Fatal(e)
	}
	want["huge"], want["same number"] = math.MaxInt, 1
	if got := d.List(); !slices.Equal(got, listed(want)) {
		t.Fatalf("%v", got)
	}
}

// P8.1: what may not be, in its order; nothing is changed then.
func TestAddOfWhatMayNotBe(t *testing.T) {
	for _, x := range []struct {
		name string
		ino  int
		want api.Errno
	}{
		{"", 1, api.ErrArg},
		{"", 0, api.ErrArg},
		{"", -1, api.ErrArg},
		{"y", -1, api.ErrArg},
		{"y", math.MinInt, api.ErrArg},
		{"a", -1, api.ErrArg}, // ahead of ErrExist
		{"b", math.MinInt, api.ErrArg},
		{"a", 1, api.ErrExist},
		{"a", 2, api.ErrExist},
		{"a", 0, api.ErrExist},
		{"b", 2, api.ErrExist}, // also one that is pending
	} {
		d := made(t, "+a1 . +b2")
		if e := d.Add(x.name, x.ino); e != x.want {
			t.Fatalf("%q, %d: %v; want %v", x.name, x.ino, e, x.want)
		}
		has(t, "nothing is changed", d, "a1 b2", 1)
		d.Fail(1)
		has(t, "nothing is changed", d, "a1 b2", 0)
	}
}

// P8.1: its number, and it is there no more.
func TestRemove(t *testing.T) {
	d := made(t, "+a1 +b2 . +c0")
	for i, x := range []struct {
		name, left string
		ino        int
	}{{"b", "a1 c0", 2}, {"c", "a1", 0}, {"a", "", 1}} {
		if ino, e := d.Remove(x.name); ino != x.ino || e != api.OK {
			t.Fatalf("%s: %d, %v", x.name, ino, e)
		}
		has(t, x.name, d, x.left, i+2)
		if ino, e := d.Remove(x.name); ino != 0 || e != api.ErrNone {
			t.Fatalf("%s again: %d, %v", x.name, ino, e)
		}
		has(t, x.name+" again", d, x.left, i+2)
	}
	if e := d.Add("a", math.MaxInt); e != api.OK {
		t.Fatal(e)
	}
	if ino, e := d.Remove("a"); ino != math.MaxInt || e != api.OK {
		t.Fatalf("%d, %v", ino, e)
	}
}

// P8.1: of a name that is not there nothing is changed.
func TestRemoveOfNoName(t *testing.T) {
	for _, name := range []string{"", "x", "A", "a\x00", "ab", "\xff", "c"} {
		d := made(t, "+a1 +c3 . +b2 -c")
		if ino, e := d.Remove(name); ino != 0 || e != api.ErrNone {
			t.Fatalf("%q: %d, %v", name, ino, e)
		}
		has(t, "nothing is changed", d, "a1 b2", 2)
	}
	if ino, e := direct.New().Remove("a"); ino != 0 || e != api.ErrNone {
		t.Fatalf("of none: %d, %v", ino, e)
	}
}

// P8.2
func TestGet(t *testing.T) {
	d := made(t, "+a1 +b0 . -a +c3")
	for _, x := range []struct {
		name string
		ino  int
		ok   bool
	}{{"b", 0, true}, {"c", 3, true}, {"a", 0, false}, {"x", 0, false}, {"", 0, false}, {"C", 0, false}, {"c\x00", 0, false}} {
		if ino, ok := d.Get(x.name); ino != x.ino || ok != x.ok {
			t.Fatalf("%q: %d, %v", x.name, ino, ok)
		}
	}
	has(t, "Get changes nothing", d, "b0 c3", 2)
}

// P8.2: by bytes, not by letters, numbers, or when they came.
func TestListIsInTheOrderOfBytes(t *testing.T) {
	names := []string{"\x00", " ", "-", "10", "9", "A", "B", "a", "a\x00", "a\x00b", "aa", "b", "s-1-10", "s-1-9", "z", "\x7f", "\xc3", "é", "日", "\xff", "\xff\xff"}
	r := rand.New(rand.NewSource(8))
	for range 50 {
		d := direct.New()
		for _, i := range r.Perm(len(names)) {
			if e := d.Add(names[i], i); e != api.OK {
				t.Fatal(e)
			}
		}
		for range 3 {
			got := d.List()
			if len(got) != len(names) {
				t.Fatalf("%v", got)
			}
			for i, x := range got {
				if x.Name != names[i] || x.Ino != i {
					t.Fatalf("%d: %v", i, x)
				}
			}
		}
	}
}

// P8.2: those since the last Sync or Fail that answered OK.
func TestPending(t *testing.T) {
	d, w := direct.New(), newWords()
	for i, x := range []struct {
		call string
		want int
	}{{"+a1", 1}, {"+a2", 1}, {"+b2", 2}, {"-x", 2}, {"-a", 3}, {"-a", 3}, {"+a1", 4}, {".", 0}, {"+a1", 0}, {"-a", 1}, {"+c3", 2}, {"!1", 0}, {"+a1", 1}, {"!9", 0}, {"-b", 1}, {"!-1", 0}} {
		run(t, steps(x.call), d, w)
		if d.Pending() != x.want {
			t.Fatalf("%d, %s: %d; want %d", i, x.call, d.Pending(), x.want)
		}
	}
	has(t, "all", d, "a1 b2", 0)
}

// P8.3
func TestSync(t *testing.T) {
	d := direct.New()
	d.Sync()
	has(t, "none", d, "", 0)
	d = made(t, "+a1 +b2 -a +c3")
	d.Sync()
	has(t, "synced", d, "b2 c3", 0)
	d.Fail(0)
	has(t, "failed", d, "b2 c3", 0)
	d.Add("d", 4)
	d.Sync()
	d.Sync()
	d.Fail(-1)
	has(t, "one more", d, "b2 c3 d4", 0)
}

// P8.3: the chapter's examples, and what is told beyond.
func TestFail(t *testing.T) {
	for _, x := range []struct {
		calls string
		want  string
	}{
		{"+a1 . +b2 -a !1", "a1 b2"},
		{"+a1 . +b2 -a !0", "a1"},
		{"+a1 . +b2 -a !2", "b2"},
		{"+a1 . +b2 -a !3", "b2"},
		{"+a1 . +b2 -a !-1", "a1"},
		{fmt.Sprint("+a1 . +b2 -a !", math.MinInt), "a1"},
		{fmt.Sprint("+a1 . +b2 -a !", math.MaxInt), "b2"},
		{"!0", ""},
		{"!7", ""},
		{"+a1 !0", ""},
		{"+a1 !1", "a1"},
		{"+a1 -a +a2 -a +a3 !0", ""},
		{"+a1 -a +a2 -a +a3 !1", "a1"},
		{"+a1 -a +a2 -a +a3 !2", ""},
		{"+a1 -a +a2 -a +a3 !3", "a2"},
		{"+a1 -a +a2 -a +a3 !4", ""},
		{"+a1 -a +a2 -a +a3 !5", "a3"},
		{"+a1 . -a +a2 !0", "a1"},
		{"+a1 . -a +a2 !1", ""},
		{"+a0 . -a !0", "a0"},
		{"+a1 +b2 !1 !0", "a1"},
		{"+a1 +b2 !1 +c3 !0", "a1"},
		{"+a1 +b2 !1 -a +c3 !1", ""},
		{"+a1 +a2 -x +b2 !1", "a1"},       // what is answered an error is no operation
		{"+a1 -x +a2 -y +b2 !2", "a1 b2"}, // so it takes none of what stays
	} {
		has(t, x.calls, made(t, x.calls), x.want, 0)
	}
}

// P8.1 to P8.3: all short rows of calls, whatever stays.
func TestShortRowsOfCalls(t *testing.T) {
	each(5, steps("+a1 +a2 +b0 -a -b . !1"), func(l []step) {
		d, w := both(t, l...)
		check(t, fmt.Sprint(l), d, w)
		for keep := -1; keep <= w.pending()+1; keep++ {
			d, w := d.Copy(), w.copied()
			step{kind: "fail", n: keep}.do(t, d, w)
			check(t, fmt.Sprint(l, ", failed with ", keep), d, w)
		}
	})
}

// P8.1 to P8.3: long rows of calls, to copies too, each of which goes its own way.
func TestLongRowsOfCalls(t *testing.T) {
	r := rand.New(rand.NewSource(9))
	for range 40 {
		dirs, told := []*direct.Dir{direct.New()}, []*words{newWords()}
		for range 300 {
			at := r.Intn(len(dirs))
			if len(dirs) < 4 && r.Intn(40) == 0 {
				dirs, told = append(dirs, dirs[at].Copy()), append(told, told[at].copied())
				continue
			}
			random(r).do(t, dirs[at], told[at])
			for i, d := range dirs {
				check(t, "long", d, told[i])
			}
		}
	}
}

func random(r *rand.Rand) step {
	name := string([]byte{byte('a' + r.Intn(6))})
	switch n := r.Intn(40); {
	case n == 0:
		return step{kind: "sync"}
	case n < 3:
		return step{kind: "fail", n: r.Intn(12) - 1}
	case n < 20:
		return step{kind: "remove", name: name}
	}
	return step{kind: "add", name: name, n: r.Intn(5) - 1}
}

// P8.3: what is done to one is not seen in the other, pending operations and all.
func TestCopy(t *testing.T) {
	for _, begin := range []string{"", "+a1", "+a1 .", "+a1 . +b2 -a", "+a1 +b2 -b +c3 -a", "+a1 . -a +a2 -a"} {
		for _, l := range [][]step{steps("+x9"), steps("-a"), steps("-b"), steps("."), steps("!0"), steps("!1"), steps("!-1"), steps("!9"), steps("-a +a7 -b +b8 !1"), steps("!1 +a5 +b6 -a")} {
			d, w := both(t, steps(begin)...)
			d2, w2 := d.Copy(), w.copied()
			check(t, begin+", a copy", d2, w2)
			run(t, l, d, w)
			check(t, begin+", it is changed", d, w)
			check(t, begin+", it is changed, not its copy", d2, w2)
			run(t, l, d2, w2)
			run(t, steps("+y7 !1"), d2, w2)
			check(t, begin+", the copy is changed", d2, w2)
			check(t, begin+", the copy is changed, not it", d, w)
		}
	}
}

func run(t *testing.T, l []step, d *direct.Dir, w *words) {
	t.Helper()
	for _, s := range l {
		s.do(t, d, w)
	}
}

// P8.3: a copy's pending operations are its own: what the other one has behind them is not among them.
func TestCopiesHavePendingOperationsOfTheirOwn(t *testing.T) {
	for n := range 20 { // whatever room a list of operations has
		d := direct.New()
		for i := range n {
			d.Add(fmt.Sprint("n", i), i)
		}
		before := d.List()
		c := d.Copy()
		d.Add("d", 1)
		c.Add("c", 2)
		d.Fail(n)
		c.Fail(n)
		if !slices.Equal(d.List(), before) || !slices.Equal(c.List(), before) {
			t.Fatalf("%d: %v, %v", n, d.List(), c.List())
		}
	}
}

// Ahead of the promises: of a nil directory.
func TestNilDir(t *testing.T) {
	var d *direct.Dir
	for _, x := range []direct.Entry{{Name: "a", Ino: 1}, {Name: "", Ino: 1}, {Name: "a", Ino: -1}} { // ErrNil is ahead of ErrArg
		if e := d.Add(x.Name, x.Ino); e != api.ErrNil {
			t.Errorf("Add: %v", e)
		}
	}
	for _, name := range []string{"", "a"} {
		if ino, e := d.Remove(name); ino != 0 || e != api.ErrNil {
			t.Errorf("Remove: %d, %v", ino, e)
		}
		if ino, ok := d.Get(name); ino != 0 || ok {
			t.Errorf("Get: %d, %v", ino, ok)
		}
	}
	d.Sync()
	for _, keep := range []int{0, 1, -1, math.MaxInt, math.MinInt} {
		d.Fail(keep)
	}
	if d.List() != nil || d.Pending() != 0 || d.Copy() != nil {
		t.Errorf("%v, %d, %v", d.List(), d.Pending(), d.Copy())
	}
}

// P8.4: what is answered may be changed by whoever has it.
func TestAnswersAreNewMemory(t *testing.T) {
	d := made(t, "+a1 +b2 . +c3 -a")
	first, second := d.List(), d.List()
	for i := range first {
		first[i] = direct.Entry{Name: "?", Ino: -1}
	}
	_ = append(first[:0], make([]direct.Entry, cap(first))...)
	if !slices.Equal(second, []direct.Entry{{Name: "b", Ino: 2}, {Name: "c", Ino: 3}}) {
		t.Fatalf("another answer: %v", second)
	}
	has(t, "an answer is changed", d, "b2 c3", 2)
	third := d.List()
	d.Remove("b")
	d.Add("0", 0)
	d.Fail(1)
	if !slices.Equal(third, second) {
		t.Fatalf("the directory is changed: %v", third)
	}
}

// P8.4: no more is kept of a name's memory than the name.
func TestNamesAreNotKeptWithWhatTheyArePiecesOf(t *testing.T) {
	for what, call := range map[string]func(d *direct.Dir, name string){
		"Add":    func(d *direct.Dir, name string) { d.Add(name, 1) },
		"Remove": func(d *direct.Dir, name string) { d.Remove(name) },
		"Get":    func(d *direct.Dir, name string) { d.Get(name) },
	} {
		for _, begin := range []string{"", "+a1"} {
			d := made(t, begin)
			before := inUse()
			call(d, strings.Repeat("a", long)[:1])
			if more := inUse() - before; more > long/2 {
				t.Errorf("%s, %q: %d bytes more are kept", what, begin, more)
			}
			runtime.KeepAlive(d)
		}
	}
}

const long = 1 << 25

// inUse is how many bytes somebody still has.
func inUse() int64 {
	var m runtime.MemStats
	runtime.GC()
	runtime.ReadMemStats(&m)
	return int64(m.HeapAlloc)
}

// P8.5: failing with all that is pending changes no name, and failing with none of them brings back the last Sync's.
func TestFailWithAllAndWithNone(t *testing.T) {
	each(4, steps("+a1 +b2 -a -b +a3"), func(pending []step) {
		for _, synced := range []string{"", "+a1 .", "+a1 +b2 .", "+b5 . -b +c1 ."} {
			d, w := both(t, steps(synced)...)
			before := d.List()
			run(t, pending, d, w)
			behind := d.List()
			all, none := d.Copy(), d.Copy()
			all.Fail(d.Pending())
			none.Fail(0)
			if !slices.Equal(all.List(), behind) {
				t.Fatalf("%s %v: all stay: %v; want %v", synced, pending, all.List(), behind)
			}
			if !slices.Equal(none.List(), before) {
				t.Fatalf("%s %v: none stays: %v; want %v", synced, pending, none.List(), before)
			}
		}
	})
}

// P8.5: what is there behind a failure was there behind some operation, or ahead of all; and a failure behind it takes nothing.
func TestWhatIsThereBehindAFailureWasThere(t *testing.T) {
	r := rand.New(rand.NewSource(10))
	for range 300 {
		d, w := both(t, steps("+a1 +b2 +c3 .")...)
		seen := [][]direct.Entry{d.List()}
		for range r.Intn(30) {
			step := random(r)
			if step.kind == "sync" || step.kind == "fail" {
				continue
			}
			step.do(t, d, w)
			if d.Pending() == len(seen) {
				seen = append(seen, d.List())
			}
		}
		keep := r.Intn(len(seen))
		d.Fail(keep)
		if !slices.Equal(d.List(), seen[keep]) {
			t.Fatalf("%d stay: %v; want %v", keep, d.List(), seen[keep])
		}
		d.Fail(r.Intn(3))
		if !slices.Equal(d.List(), seen[keep]) || d.Pending() != 0 {
			t.Fatalf("%d stay, and again: %v; want %v", keep, d.List(), seen[keep])
		}
	}
}
