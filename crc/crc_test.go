package crc_test

import (
	"bytes"
	"hash/crc32"
	"slices"
	"strings"
	"testing"

	"chartroom/crc"
)

var library = crc32.MakeTable(crc32.Castagnoli)

// some bytes, each time the same ones, none like its neighbours.
func some(many int) []byte {
	b := make([]byte, many)
	n := uint32(12345)
	for i := range b {
		n = n*1664525 + 1013904223
		b[i] = byte(n >> 24)
	}
	return b
}

// bits is the check by its words: digit by digit, the lowest of each byte first.
func bits(b []byte) uint32 {
	register := uint32(0xFFFFFFFF)
	for _, x := range b {
		for i := range 8 {
			out := register&1 ^ uint32(x>>i&1)
			register >>= 1
			if out == 1 {
				register ^= 0x82F63B78
			}
		}
	}
	return register ^ 0xFFFFFFFF
}

func rows() [][]byte {
	l := [][]byte{
		nil, {}, {0}, {0xFF}, {0x80}, {1}, []byte("a"), []byte("123456789"), []byte("é\x00\xFF"),
		make([]byte, 32), bytes.Repeat([]byte{0xFF}, 32), make([]byte, 70000), some(65535), some(65536),
	}
	for many := range 70 {
		l = append(l, some(many))
	}
	return l
}

func checkSum(t *testing.T, want uint32, l ...[]byte) {
	t.Helper()
	if got := crc.Sum(l...); got != want {
		t.Errorf("Sum of %d rows: %08X; want %08X", len(l), got, want)
	}
	if !crc.Match(want, l...) {
		t.Errorf("Match(%08X) of %d rows: false", want, len(l))
	}
}

// P2.1
func TestSumExamples(t *testing.T) {
	rising, falling := make([]byte, 32), make([]byte, 32)
	for i := range rising {
		rising[i], falling[31-i] = byte(i), byte(i)
	}
	for _, x := range []struct {
		b    []byte
		want uint32
	}{
		{[]byte("123456789"), 0xE3069283},
		{make([]byte, 32), 0x8A9136AA},
		{bytes.Repeat([]byte{0xFF}, 32), 0x62A8AB43},
		{rising, 0x46DD794E},
		{falling, 0x113FDB5C},
		{[]byte("a"), 0xC1D04330},
		{[]byte{0}, 0x527D5351},
	} {
		checkSum(t, x.want, x.b)
	}
}

// P2.1: of no bytes, in no row or in many, 0.
func TestSumOfNothing(t *testing.T) {
	checkSum(t, 0)
	checkSum(t, 0, [][]byte{}...)
	checkSum(t, 0, nil)
	checkSum(t, 0, []byte{})
	checkSum(t, 0, nil, []byte{}, nil)
	checkSum(t, 0, some(5)[:0])
}

// P2.1: as the words tell, and as the library has it.
func TestSumOfOneRow(t *testing.T) {
	for _, b := range rows() {
		checkSum(t, bits(b), b)
		checkSum(t, crc32.Checksum(b, library), b)
	}
	for i := range 256 {
		checkSum(t, bits([]byte{byte(i)}), []byte{byte(i)})
	}
}

// P2.1: all of the rows, in their order.
func TestSumOfRows(t *testing.T) {
	l := rows()
	checkSum(t, bits(slices.Concat(l...)), l...)
	slices.Reverse(l)
	checkSum(t, bits(slices.Concat(l...)), l...)
	checkSum(t, 0xE3069283, []byte("1234"), nil, []byte("56789"), []byte{})
	single := make([][]byte, 0, 9)
	for _, x := range []byte("123456789") {
		single = append(single, []byte{x})
	}
	checkSum(t, 0xE3069283, single...)
	if crc.Sum([]byte("56789"), []byte("1234")) == 0xE3069283 {
		t.Error("the order of the rows is of no account")
	}
}

// P2.1: what stands in memory behind a row is none of it.
func TestRowsEnd(t *testing.T) {
	b := some(40)
	for many := range b {
		checkSum(t, bits(b[:many]), b[:many])
		if got := crc.Update(7, b[:many]); got != crc32.Update(7, library, b[:many]) {
			t.Errorf("Update of %d bytes: %08X", many, got)
		}
	}
}

// P2.1
func TestUpdate(t *testing.T) {
	if got := crc.Update(0xC1D04330, []byte("bc")); got != bits([]byte("abc")) {
		t.Errorf("a, and bc behind: %08X", got)
	}
	for _, ahead := range rows() {
		for _, b := range [][]byte{nil, {}, {0}, {0xFF}, []byte("123456789"), some(300)} {
			want := bits(slices.Concat(ahead, b))
			if got := crc.Update(bits(ahead), b); got != want {
				t.Errorf("Update behind %d of %d bytes: %08X; want %08X", len(ahead), len(b), got, want)
			}
		}
	}
}

// P2.1: any number may be the check of some bytes.
func TestUpdateAnyCheck(t *testing.T) {
	checks := []uint32{0, 1, 0x7FFFFFFF, 0x80000000, 0xFFFFFFFE, 0xFFFFFFFF, 0x82F63B78, 0xE3069283}
	for digit := range 32 {
		checks = append(checks, 1<<digit)
	}
	for _, c := range checks {
		for _, none := range [][]byte{nil, {}} {
			if got := crc.Update(c, none); got != c {
				t.Errorf("Update(%08X) of no bytes: %08X", c, got)
			}
		}
		for _, b := range rows() {
			if got, want := crc.Update(c, b), crc32.Update(c, library, b); got != want {
				t.Errorf("Update(%08X) of %d bytes: %08X; want %08X", c, len(b), got, want)
			}
		}
	}
}

// P2.2
func TestTable(t *testing.T) {
	table := crc.Table()
	if table[0] != 0 || table[1] != 0xF26B8303 || table[128] != 0x82F63B78 || table[255] != 0xAD7D5351 {
		t.Errorf("0, 1, 128, 255: %08X, %08X, %08X, %08X", table[0], table[1], table[128], table[255])
	}
	for i, got := range table {
		want := uint32(i)
		for range 8 {
			if want%2 == 1 {
				want = want/2 ^ 0x82F63B78
			} else {
				want /= 2
			}
		}
		if got != want || got != library[i] {
			t.Errorf("Table()[%d]: %08X; want %08X", i, got, want)
		}
	}
}

// P2.2, P2.4: who changes a table has its own one.
func TestTableIsNew(t *testing.T) {
	table := crc.Table()
	clear(table[:])
	if again := crc.Table(); again[1] != 0xF26B8303 {
		t.Errorf("Table()[1]: %08X", again[1])
	}
	checkSum(t, 0xE3069283, []byte("123456789"))
}

// P2.3
func TestMatch(t *testing.T) {
	digits := []byte("123456789")
	for _, wrong := range []uint32{0, 0xE3069282, 0xE3069284, 0x63069283, 0x1CF96D7C, 0x839206E3, 0xFFFFFFFF} {
		if crc.Match(wrong, digits) {
			t.Errorf("Match(%08X): true", wrong)
		}
	}
	for digit := range 32 {
		if crc.Match(0xE3069283^1<<digit, digits[:4], digits[4:]) {
			t.Errorf("Match with digit %d turned: true", digit)
		}
	}
	if !crc.Match(0xE3069283, digits) || !crc.Match(0xE3069283, digits[:1], nil, digits[1:]) {
		t.Error("Match of the sum: false")
	}
	if crc.Match(0xE3069283, digits, []byte{0}) || crc.Match(0xE3069283, digits[:8]) || crc.Match(0xE3069283) {
		t.Error("Match of other bytes: true")
	}
	if !crc.Match(0) || !crc.Match(0, nil) || crc.Match(1) || crc.Match(0xFFFFFFFF, nil, nil) {
		t.Error("Match of no bytes")
	}
}

// P2.4: nothing of what is handed in is changed, what lies behind its length included, nor is it kept.
func TestOnlyRead(t *testing.T) {
	whole := some(20)
	was := slices.Clone(whole)
	l := [][]byte{whole[:3], nil, whole[3:9], whole[15:]}
	list := l[:3]
	for range 2 {
		crc.Sum(list...)
		crc.Update(77, whole[:9])
		crc.Match(77, list...)
		crc.Match(bits(whole[:9]), list...)
	}
	if !bytes.Equal(whole, was) {
		t.Errorf("changed: %x; was %x", whole, was)
	}
	if len(l[0]) != 3 || l[1] != nil || len(l[2]) != 6 || len(l[3]) != 5 || &l[2][0] != &whole[3] || &l[3][0] != &whole[15] {
		t.Error("the rows are other ones")
	}
	first := crc.Sum(list...)
	whole[0]++
	if second := crc.Sum(list...); first == second || second != bits(whole[:9]) {
		t.Errorf("%08X, and of other bytes %08X", first, second)
	}
	whole[0]--
	checkSum(t, first, list...)
}

// P2.5: parted anywhere, in two, in three, and byte by byte.
func TestParted(t *testing.T) {
	b := some(48)
	want := bits(b)
	var slowly uint32
	for i := range len(b) + 1 {
		checkSum(t, want, b[:i], b[i:])
		if got := crc.Update(crc.Sum(b[:i]), b[i:]); got != want {
			t.Errorf("parted at %d: %08X; want %08X", i, got, want)
		}
		for j := i; j <= len(b); j++ {
			checkSum(t, want, b[:i], b[i:j], b[j:])
			if got := crc.Update(crc.Update(crc.Update(0, b[:i]), b[i:j]), b[j:]); got != want {
				t.Errorf("parted at %d and %d: %08X; want %08X", i, j, got, want)
			}
		}
		if i < len(b) {
			slowly = crc.Update(slowly, b[i:i+1])
		}
	}
	if slowly != want {
		t.Errorf("byte by byte: %08X; want %08X", slowly, want)
	}
}

// P2.5: one digit another one, or two next to one another, at any place.
func TestOtherDigits(t *testing.T) {
	for _, b := range [][]byte{{0}, {0xFF}, []byte("123456789"), make([]byte, 33), some(257)} {
		was := crc.Sum(b)
		for digit := range 8 * len(b) {
			b[digit/8] ^= 1 << (digit % 8)
			if crc.Sum(b) == was || crc.Match(was, b) {
				t.Errorf("%d bytes, digit %d: the same check", len(b), digit)
			}
			if next := digit + 1; next < 8*len(b) {
				b[next/8] ^= 1 << (next % 8)
				if crc.Sum(b) == was || crc.Match(was, b) {
					t.Errorf("%d bytes, digits %d and %d: the same check", len(b), digit, next)
				}
				b[next/8] ^= 1 << (next % 8)
			}
			b[digit/8] ^= 1 << (digit % 8)
		}
		checkSum(t, was, b)
	}
}

// P2.5: noughts ahead or behind are of account, too.
func TestNoughts(t *testing.T) {
	seen := map[uint32]int{}
	for many := range 300 {
		sum := crc.Sum(make([]byte, many))
		if other, ok := seen[sum]; ok {
			t.Errorf("%d and %d noughts: the same check", other, many)
		}
		seen[sum] = many
	}
	if crc.Sum([]byte("\x00a")) == crc.Sum([]byte("a")) || crc.Sum([]byte("a\x00")) == crc.Sum([]byte("a")) {
		t.Error("a nought is of no account")
	}
}

// P2.5: the xor of two checks, and that of noughts, is the check of the xor.
func TestXor(t *testing.T) {
	for _, many := range []int{0, 1, 2, 9, 32, 255, 4096} {
		text := []byte(strings.Repeat("123456789", many/9+1))[:many]
		for _, second := range [][]byte{make([]byte, many), bytes.Repeat([]byte{0xFF}, many), text} {
			first, both := some(many), make([]byte, many)
			for i := range both {
				both[i] = first[i] ^ second[i]
			}
			checkSum(t, crc.Sum(first)^crc.Sum(second)^crc.Sum(make([]byte, many)), both)
		}
	}
}
