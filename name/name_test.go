package name_test

import (
	"fmt"
	"math"
	"math/big"
	"regexp"
	"slices"
	"strings"
	"testing"

	"chartroom/name"
)

const top = math.MaxUint64

// edges of numbers: of digits, of halves, the least and the greatest.
func edges() []uint64 {
	l := []uint64{0, 1, 2, 9, 10, 11, 99, 100, 101, 1<<31 - 1, 1 << 31, 1<<32 - 1, 1 << 32, 1<<53 + 1, 1<<63 - 1, 1 << 63, top - 1, top}
	for x := uint64(1); x <= top/10; x *= 10 {
		l = append(l, x*10-1, x*10)
	}
	return l
}

// fields of n, in the order by which names are ordered.
func fields(n name.Name) []uint64 {
	return []uint64{uint64(n.Kind), n.Doc, n.N, n.Proc, n.Inc, n.K}
}

// of is the Name that has these fields.
func of(l []uint64) name.Name {
	return name.Name{Kind: uint8(l[0]), Doc: l[1], N: l[2], Proc: l[3], Inc: l[4], K: l[5]}
}

// told are the places in fields of what a kind tells, in the order in which its name has them.
func told(kind uint8) []int {
	return map[uint8][]int{1: {1, 2}, 2: {1, 2}, 3: {3, 4, 5}, 4: {1, 3, 4, 5}}[kind]
}

// may tells by the words whether a Name may be.
func may(n name.Name) bool {
	for i, x := range fields(n)[1:] {
		if x != 0 && !slices.Contains(told(n.Kind), i+1) {
			return false
		}
	}
	return told(n.Kind) != nil
}

// written is a Name that may be, by the words.
func written(n name.Name) string {
	l := []string{string(" sbtj"[n.Kind])}
	for _, i := range told(n.Kind) {
		l = append(l, new(big.Int).SetUint64(fields(n)[i]).String())
	}
	return strings.Join(l, "-")
}

var looks = regexp.MustCompile(`\A(?:[sb](?:-(?:0|[1-9][0-9]*)){2}|t(?:-(?:0|[1-9][0-9]*)){3}|j(?:-(?:0|[1-9][0-9]*)){4})\z`)

// read is the Name whose name s is, by the words.
func read(s string) (name.Name, bool) {
	if !looks.MatchString(s) {
		return name.Name{}, false
	}
	parts := strings.Split(s, "-")
	kind := uint8(strings.Index(" sbtj", parts[0]))
	l := []uint64{uint64(kind), 0, 0, 0, 0, 0}
	for i, at := range told(kind) {
		x, ok := new(big.Int).SetString(parts[i+1], 10)
		if !ok || !x.IsUint64() {
			return name.Name{}, false
		}
		l[at] = x.Uint64()
	}
	return of(l), true
}

// names that may be: of each kind, with each edge at each place, the others all 0, all the greatest, or all different.
func names() []name.Name {
	var l []name.Name
	for kind := uint8(1); kind <= 4; kind++ {
		for _, others := range [][]uint64{{0, 0, 0, 0, 0, 0}, {0, top, top, top, top, top}, {0, 12, 23, 34, 45, 56}} {
			for _, at := range told(kind) {
				for _, x := range edges() {
					f := []uint64{uint64(kind), 0, 0, 0, 0, 0}
					for _, i := range told(kind) {
						f[i] = others[i]
					}
					f[at] = x
					l = append(l, of(f))
				}
			}
		}
	}
	return l
}

// grid is the Names of these kinds whose fields are of these numbers, whether they may be or not.
func grid(kinds []uint8, numbers ...uint64) []name.Name {
	l := [][]uint64{}
	for _, kind := range kinds {
		l = append(l, []uint64{uint64(kind)})
	}
	for range 5 {
		var longer [][]uint64
		for _, f := range l {
			for _, x := range numbers {
				longer = append(longer, append(slices.Clone(f), x))
			}
		}
		l = longer
	}
	var out []name.Name
	for _, f := range l {
		out = append(out, of(f))
	}
	return out
}

// checkParse holds Parse against the words.
func checkParse(t *testing.T, s string) {
	t.Helper()
	want, there := read(s)
	if n, ok := name.Parse(s); n != want || ok != there {
		t.Errorf("Parse(%.80q): %v, %t; want %v, %t", s, n, ok, want, there)
	}
}

func checkNone(t *testing.T, s string) {
	t.Helper()
	if n, ok := name.Parse(s); n != (name.Name{}) || ok {
		t.Errorf("Parse(%.80q): %v, %t", s, n, ok)
	}
}

func checkName(t *testing.T, n name.Name, s string) {
	t.Helper()
	if got := name.Put(n); got != s || !name.May(n) {
		t.Errorf("Put(%v): %q, May %t; want %q", n, got, name.May(n), s)
	}
	if m, ok := name.Parse(s); m != n || !ok {
		t.Errorf("Parse(%q): %v, %t; want %v", s, m, ok, n)
	}
}

// P4.1
func TestKinds(t *testing.T) {
	if name.Slot != 1 || name.Base != 2 || name.Temp != 3 || name.Seg != 4 {
		t.Error("the kinds' numbers")
	}
	checkName(t, name.Name{Kind: 1, Doc: 7, N: 12}, "s-7-12")
	checkName(t, name.Name{Kind: 2, Doc: 7, N: 12}, "b-7-12")
	checkName(t, name.Name{Kind: 3, Proc: 2, Inc: 3, K: 4}, "t-2-3-4")
	checkName(t, name.Name{Kind: 4, Doc: 1, Proc: 2, Inc: 3, K: 4}, "j-1-2-3-4")
	checkName(t, name.Name{Kind: 1}, "s-0-0")
	checkName(t, name.Name{Kind: 2, N: top}, "b-0-18446744073709551615")
	checkName(t, name.Name{Kind: 3}, "t-0-0-0")
	checkName(t, name.Name{Kind: 4, Doc: top, Proc: top, Inc: top, K: top}, "j-18446744073709551615-18446744073709551615-18446744073709551615-18446744073709551615")
}

// P4.1: all edges of numbers, at all places.
func TestEdges(t *testing.T) {
	for _, n := range names() {
		checkName(t, n, written(n))
	}
}

// P4.1: of all kinds that there are and are not, with numbers where the kind tells of them, and elsewhere.
func TestMay(t *testing.T) {
	var kinds []uint8
	for kind := range 256 {
		kinds = append(kinds, uint8(kind))
	}
	many := 0
	for _, n := range slices.Concat(grid(kinds, 0, 1), grid(kinds, 0, top), grid(kinds[:6], 0, 1, 1<<32)) {
		if !may(n) {
			if name.May(n) || name.Put(n) != "" {
				t.Errorf("%v: %t, %q", n, name.May(n), name.Put(n))
			}
			continue
		}
		many++
		checkName(t, n, written(n))
	}
	if many != 2*(4+4+8+16)+9+9+27+81 {
		t.Errorf("%d that may be", many)
	}
}

// P4.1: too few numbers, and too many; other letters; other bytes ahead, between and behind.
func TestNoName(t *testing.T) {
	for _, s := range []string{
		"", "-", "--", "---", "----", "-----", "s", "b", "t", "j", "x", "0", "1", "s-", "b-", "t-", "j-",
		"s-1", "b-1", "t-1", "j-1", "t-1-2", "j-1-2", "j-1-2-3", "s-1-2-3", "b-1-2-3", "t-1-2-3-4", "j-1-2-3-4-5", "s-1-2-3-4", "s-1-2-3-4-5",
		"s-1-2-", "s-1-", "s--1", "s--1-2", "s-1--2", "s---", "-s-1-2", "-1-2", "--1-2", "b-1-2-", "t-1-2-3-", "j-1-2-3-4-", "j-1-2-3-4--", "j-1-2-3-4-5-6-7-8-9",
		"S-1-2", "B-1-2", "T-1-2-3", "J-1-2-3-4", "x-1-2", "x-1-2-3", "x-1-2-3-4", "ss-1-2", "sb-1-2", "tj-1-2-3", "1-1-2", "\x00-1-2", "\xff-1-2", " -1-2", "é-1-2",
		"s1-2", "s-12", "s12", "s_1_2", "s 1 2", "s.1.2", "s/1/2", "s-1/2", "s−1−2", "s–1–2", "s-1-2/", "./s-1-2", "s-1-2.tmp",
		" s-1-2", "s-1-2 ", "\ts-1-2", "s-1-2\n", "s-1-2\x00", "\x00s-1-2", "s- 1-2", "s-1 -2", "s -1-2", "s-1-2\xff", "\ufeffs-1-2", "s-1-2s-1-2", "s-1-2 s-1-2",
	} {
		checkNone(t, s)
		checkParse(t, s)
	}
	for _, s := range []string{"s-1-2", "b-1-2", "t-1-2-3", "j-1-2-3-4"} {
		for _, long := range []string{strings.Repeat("-1", 1<<16), strings.Repeat("-", 1<<16), strings.Repeat(" ", 1<<16), "-" + s} {
			checkNone(t, s+long)
			checkNone(t, long+s)
		}
	}
}

// P4.1: what is no number, at each place of each kind.
func TestNoNumber(t *testing.T) {
	wrong := []string{
		"", " ", "00", "01", "007", "000000000000000000001", "00000000000000000000", "018446744073709551615",
		"+0", "+1", "-0", "-1", "0x1", "0b1", "0o1", "0X1", "1_0", "0_1", "_1", "1_", "1.", "1.0", ".1", "1e3", "1E3", "1,000", "a", "f", "inf", "NaN", "nil",
		" 1", "1 ", "1\n", "1\x00", "\x001", "1\r", "１", "٣", "²", "½", "Ⅻ", "\xb1", "/", ":", "1/", "1:", "0:", "0/",
		"18446744073709551616", "18446744073709551617", "18446744073709551620", "18446744073709551700", "18446744073709552000", "18446744073709560000", "19000000000000000000", "28446744073709551615",
		"20000000000000000000", "36893488147419103232", "55340232221128654848", "99999999999999999999", "100000000000000000000", "184467440737095516150", "184467440737095516160",
		"340282366920938463463374607431768211456", "340282366920938463463374607431768211457", strings.Repeat("9", 1000), "1" + strings.Repeat("0", 1<<16), strings.Repeat("0", 1<<16),
	}
	for letter, many := range map[string]int{"s": 2, "b": 2, "t": 3, "j": 4} {
		for at := range many {
			for _, digits := range wrong {
				parts := slices.Repeat([]string{"1"}, many)
				parts[at] = digits
				checkNone(t, letter+"-"+strings.Join(parts, "-"))
			}
		}
	}
}

// P4.1: any text is a name or none, as the words say.
func TestAnyText(t *testing.T) {
	var grow func(s string, parts []string, left int)
	grow = func(s string, parts []string, left int) {
		checkParse(t, s)
		if left == 0 {
			return
		}
		for _, part := range parts {
			grow(s+part, parts, left-1)
		}
	}
	grow("", []string{"s", "t", "-", "0", "1"}, 7)
	parts := []string{"-", "-0", "-1", "-10", "-01", "0", "-18446744073709551615", "-18446744073709551616"}
	for _, letter := range []string{"", "s", "b", "t", "j", "x", "sb"} {
		grow(letter, parts, 5)
	}
}

// P4.1: names of which one byte is another one, is gone, or stands there more.
func TestOtherBytes(t *testing.T) {
	for _, s := range []string{"s-7-12", "b-0-0", "t-1-20-3", "j-9-8-17-0", "s-18446744073709551615-1"} {
		for i := range len(s) + 1 {
			for c := range 256 {
				checkParse(t, s[:i]+string([]byte{byte(c)})+s[i:])
				if i < len(s) {
					checkParse(t, s[:i]+string([]byte{byte(c)})+s[i+1:])
				}
			}
			checkParse(t, s[:i])
			checkParse(t, s[i:])
			if i < len(s) {
				checkParse(t, s[:i]+s[i+1:])
			}
		}
	}
}

// P4.2
func TestOf(t *testing.T) {
	if s := name.OfSlot(7, 12); s != "s-7-12" {
		t.Errorf("OfSlot(7, 12): %q", s)
	}
	if s := name.OfSeg(1, 2, 3, 4); s != "j-1-2-3-4" {
		t.Errorf("OfSeg(1, 2, 3, 4): %q", s)
	}
	for _, a := range edges() {
		for _, b := range []uint64{0, 5, top} {
			for _, s := range [][2]string{
				{name.OfSlot(a, b), fmt.Sprintf("s-%d-%d", a, b)},
				{name.OfSlot(b, a), fmt.Sprintf("s-%d-%d", b, a)},
				{name.OfBase(a, b), fmt.Sprintf("b-%d-%d", a, b)},
				{name.OfBase(b, a), fmt.Sprintf("b-%d-%d", b, a)},
				{name.OfTemp(a, b, 6), fmt.Sprintf("t-%d-%d-6", a, b)},
				{name.OfTemp(6, a, b), fmt.Sprintf("t-6-%d-%d", a, b)},
				{name.OfTemp(b, 6, a), fmt.Sprintf("t-%d-6-%d", b, a)},
				{name.OfSeg(a, b, 6, 7), fmt.Sprintf("j-%d-%d-6-7", a, b)},
				{name.OfSeg(6, a, b, 7), fmt.Sprintf("j-6-%d-%d-7", a, b)},
				{name.OfSeg(6, 7, a, b), fmt.Sprintf("j-6-7-%d-%d", a, b)},
				{name.OfSeg(b, 6, 7, a), fmt.Sprintf("j-%d-6-7-%d", b, a)},
			} {
				if s[0] != s[1] {
					t.Errorf("%q; want %q", s[0], s[1])
				}
			}
		}
	}
}

// P4.2: by all fields, the first one that differs, as numbers; whether the Names may be or not.
func TestCompare(t *testing.T) {
	l := append(grid([]uint8{0, 1, 3, 4, 255}, 2, 11), grid([]uint8{1, 2}, 0, top)...)
	l = append(l, name.Name{}, name.Name{Kind: 128}, name.Name{Kind: 1, Doc: 1 << 63}, name.Name{Kind: 1, Doc: 1<<63 - 1})
	for _, a := range l {
		for _, b := range l {
			if c := name.Compare(a, b); c != slices.Compare(fields(a), fields(b)) {
				t.Errorf("Compare(%v, %v): %d", a, b, c)
			}
		}
	}
}

// P4.2: each field alone, one apart, and as far apart as may be.
func TestCompareFields(t *testing.T) {
	for at := range 6 {
		for _, x := range edges() {
			low, high := []uint64{9, 9, 9, 9, 9, 9}, []uint64{9, 9, 9, 9, 9, 9}
			low[at], high[at] = x, top
			if at == 0 {
				low[at], high[at] = x%255, 255
			}
			for i := at + 1; i < 6; i++ { // what comes behind is for nothing
				low[i], high[i] = 200, 100
			}
			if low[at] == high[at] {
				continue
			}
			if a, b := of(low), of(high); name.Compare(a, b) != -1 || name.Compare(b, a) != 1 || name.Compare(a, a) != 0 || name.Compare(b, b) != 0 {
				t.Errorf("%v, %v: %d, %d", a, b, name.Compare(a, b), name.Compare(b, a))
			}
		}
	}
}

// P4.3
func TestSort(t *testing.T) {
	for _, l := range [][]string{nil, {}, {""}, {"x", "s-01-1", "s-1", "", "s-1-18446744073709551616"}} {
		if got := name.Sort(l...); len(got) != 0 {
			t.Errorf("Sort(%q): %v", l, got)
		}
	}
	want := []name.Name{
		{Kind: 1, Doc: 2, N: 2}, {Kind: 1, Doc: 2, N: 11}, {Kind: 1, Doc: 10}, {Kind: 1, Doc: 10}, {Kind: 1, Doc: 10},
		{Kind: 2}, {Kind: 2, N: top}, {Kind: 3, K: 9}, {Kind: 3, Inc: 8}, {Kind: 3, Proc: 7}, {Kind: 4, K: 3}, {Kind: 4, Inc: 2}, {Kind: 4, Proc: 1},
	}
	l := []string{"j-0-1-0-0", "s-10-0", "t-7-0-0", "", "b-0-18446744073709551615", "s-2-11", "j-0-0-0-3", "s-10-0", "x", "t-0-8-0", "s-2-2", "s-10-0 ", "b-0-0", "j-0-0-2-0", "t-0-0-9", "s-10-0", "s-02-2"}
	for range l { // from each place on
		l = append(l[1:], l[0])
		if got := name.Sort(l...); !slices.Equal(got, want) {
			t.Errorf("Sort(%q): %v", l, got)
		}
	}
}

// P4.3: many, each as often as it stands there, among as many that are none.
func TestSortMany(t *testing.T) {
	var l []string
	var want []name.Name
	for i, n := range slices.Concat(names(), grid([]uint8{1, 2, 3, 4}, 0, 7, 30)) {
		if may(n) {
			for range 1 + i%3 {
				l, want = append(l, written(n), "x"+written(n)), append(want, n)
			}
		}
	}
	slices.SortFunc(want, func(a, b name.Name) int { return slices.Compare(fields(a), fields(b)) })
	for _, step := range []int{1, 7919, len(l) - 1} { // in an order of each sort: as it is, mixed, from behind
		mixed := make([]string, 0, len(l))
		for start := range step {
			for i := start; i < len(l); i += step {
				mixed = append(mixed, l[len(l)-1-i])
			}
		}
		if got := name.Sort(mixed...); len(mixed) != len(l) || !slices.Equal(got, want) {
			t.Errorf("step %d: %d names of %d", step, len(got), len(want))
		}
	}
}

// P4.4: the list that is handed in is not changed, what lies behind its length included.
func TestOnlyRead(t *testing.T) {
	whole := []string{"s-2-2", "b-1-1", "x", "s-1-1", "", "j-1-2-3-4", "t-1-2-3", "s-1-1"}
	was := slices.Clone(whole)
	for many := range len(whole) + 1 {
		name.Sort(whole[:many]...)
		if !slices.Equal(whole, was) {
			t.Fatalf("changed: %q", whole)
		}
	}
}

// P4.4: what is answered stays as it is, whatever is done to what was handed in, and to other answers.
func TestNewMemory(t *testing.T) {
	l := []string{"s-2-2", "s-1-1"}
	first, second := name.Sort(l...), name.Sort(l...)
	clear(l)
	clear(second[:cap(second)])
	if !slices.Equal(first, []name.Name{{Kind: 1, Doc: 1, N: 1}, {Kind: 1, Doc: 2, N: 2}}) {
		t.Errorf("%v", first)
	}
	b := []byte("t-1-2-3")
	n, _ := name.Parse(string(b))
	s := name.Put(n)
	clear(b)
	n.K = 9
	if s != "t-1-2-3" || name.Put(n) != "t-1-2-9" {
		t.Errorf("%q, %q", s, name.Put(n))
	}
}

// P4.5: what is put is parsed as it was; no two have the same name.
func TestParsedAsPut(t *testing.T) {
	seen := map[string]name.Name{}
	for _, n := range slices.Concat(names(), grid([]uint8{1, 2, 3, 4}, 0, 1, 11, 111, top)) {
		if !may(n) {
			continue
		}
		s := name.Put(n)
		if m, ok := name.Parse(s); m != n || !ok {
			t.Errorf("%v: %q: %v, %t", n, s, m, ok)
		}
		if m, there := seen[s]; there && m != n {
			t.Errorf("%v and %v: %q", m, n, s)
		}
		seen[s] = n
	}
}

// P4.5: what is parsed may be, and is put as it was.
func TestPutAsParsed(t *testing.T) {
	numbers := []string{"0", "1", "9", "10", "99", "100", "9223372036854775807", "9223372036854775808", "9999999999999999999", "10000000000000000000", "18446744073709551609", "18446744073709551610", "18446744073709551615"}
	for letter, many := range map[string]int{"s": 2, "b": 2, "t": 3, "j": 4} {
		l := []string{letter}
		for range many {
			var longer []string
			for _, s := range l {
				for _, digits := range numbers {
					longer = append(longer, s+"-"+digits)
				}
			}
			l = longer
		}
		for _, s := range l {
			if n, ok := name.Parse(s); !ok || !name.May(n) || name.Put(n) != s {
				t.Errorf("%q: %v, %t, %q", s, n, ok, name.Put(n))
			}
		}
	}
}
