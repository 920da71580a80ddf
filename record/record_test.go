package record_test

import (
	"bytes"
	"encoding/binary"
	"hash/crc32"
	"math"
	"slices"
	"strings"
	"testing"

	"chartroom/api"
	"chartroom/record"
)

// told is which parts each kind has, by the chapter's table.
var told = map[uint8][]string{
	1: {"Epoch", "Until"}, 2: {"Epoch", "Until"}, 3: {"Epoch"}, 4: {"Epoch", "Version", "Size", "Crc"},
	5: {"Version", "Until"}, 6: {"Version"}, 7: {}, 8: {"Clock"}, 9: {"Name"}, 10: {"Name"}, 11: {"Name", "To"},
}

var fields = []string{"Proc", "Inc", "Seq", "Epoch", "Until", "Version", "Clock", "Size", "Crc", "Name", "To"}

const lastKind = 11

func isText(field string) bool { return field == "Name" || field == "To" }

func textOf(r *record.Rec, field string) *string {
	if field == "Name" {
		return &r.Name
	}
	return &r.To
}

func numberOf(r *record.Rec, field string) *uint64 {
	return map[string]*uint64{
		"Proc": &r.Proc, "Inc": &r.Inc, "Seq": &r.Seq, "Epoch": &r.Epoch, "Until": &r.Until,
		"Version": &r.Version, "Clock": &r.Clock, "Size": &r.Size, "Crc": &r.Crc,
	}[field]
}

func set(r *record.Rec, field string, n uint64) {
	if isText(field) {
		*textOf(r, field) = strings.Repeat("n", int(n))
		return
	}
	*numberOf(r, field) = n
}

// most is the most that a field may hold in a record that is right: of a text how many bytes.
func most(field string) uint64 {
	switch field {
	case "Name", "To":
		return 64
	case "Size":
		return 65535
	case "Crc":
		return 1<<32 - 1
	}
	return math.MaxUint64
}

// all that a kind tells of.
func all(kind uint8) []string { return append([]string{"Proc", "Inc", "Seq"}, told[kind]...) }

// least is the record of a kind that is right, and has the fewest bytes.
func least(kind uint8) record.Rec {
	r := record.Rec{Kind: kind}
	for _, f := range all(kind) {
		if isText(f) {
			set(&r, f, 1)
		}
	}
	return r
}

// full is the record of a kind that is right, and has another value at each place.
func full(kind uint8) record.Rec {
	r := record.Rec{Kind: kind}
	for i, f := range all(kind) {
		set(&r, f, 11+uint64(i))
	}
	return r
}

// framed is a frame by its words, with the library's numbers and sums.
func framed(kind uint8, body []byte) []byte {
	b := append(binary.AppendUvarint([]byte{kind}, uint64(len(body))), body...)
	return binary.LittleEndian.AppendUint32(b, crc32.Checksum(b, crc32.MakeTable(crc32.Castagnoli)))
}

// bodyOf is a record's body by its words, whether it is right or not.
func bodyOf(r record.Rec) (b []byte) {
	for _, f := range all(r.Kind) {
		if isText(f) {
			s := *textOf(&r, f)
			b = append(binary.AppendUvarint(b, uint64(len(s))), s...)
			continue
		}
		b = binary.AppendUvarint(b, *numberOf(&r, f))
	}
	return b
}

func written(r record.Rec) []byte { return framed(r.Kind, bodyOf(r)) }

// rights are records that are right: of each kind with each part, alone and with all others, at all its edges.
func rights() (l []record.Rec) {
	for kind := uint8(1); kind <= lastKind; kind++ {
		l = append(l, full(kind))
		for _, f := range all(kind) {
			for _, n := range edges(f) {
				for _, r := range []record.Rec{least(kind), full(kind)} {
					set(&r, f, n)
					l = append(l, r)
				}
			}
		}
		r := record.Rec{Kind: kind}
		for _, f := range all(kind) {
			set(&r, f, most(f))
		}
		l = append(l, r)
	}
	for _, s := range []string{"ab", "\x00", "\xFF\x80", "é", "a/b", "-", " "} {
		l = append(l, record.Rec{Kind: record.Bind, Name: s}, record.Rec{Kind: record.Rename, Name: s, To: s})
	}
	return l
}

func edges(field string) (l []uint64) {
	for _, n := range []uint64{0, 1, 2, 63, 64, 127, 128, 300, 65534, 65535, 65536, 1<<32 - 1, 1 << 32, 1 << 63, math.MaxUint64} {
		if n <= most(field) && (n > 0 || !isText(field)) {
			l = append(l, n)
		}
	}
	return l
}

func checkRight(t *testing.T, r record.Rec) {
	t.Helper()
	if !record.Right(r) {
		t.Fatalf("not right: %#v", r)
	}
	if b, e := record.Put(r); !bytes.Equal(b, written(r)) || e != api.OK {
		t.Fatalf("Put(%#v): %x, %d; want %x", r, b, e, written(r))
	}
}

func checkWrong(t *testing.T, r record.Rec) {
	t.Helper()
	if record.Right(r) {
		t.Fatalf("right: %#v", r)
	}
	if b, e := record.Put(r); len(b) != 0 || e != api.ErrArg {
		t.Fatalf("Put(%#v): %x, %d", r, b, e)
	}
}

func checkParse(t *testing.T, b []byte, want record.Rec, e api.Errno) {
	t.Helper()
	if r, f := record.Parse(b); r != want || f != e {
		t.Fatalf("Parse(%.80x): %#v, %d; want %#v, %d", b, r, f, want, e)
	}
}

func checkFails(t *testing.T, kind uint8, body string, e api.Errno) {
	t.Helper()
	checkParse(t, framed(kind, []byte(body)), record.Rec{}, e)
}

// P6.1: the chapter's examples, byte by byte.
func TestExamples(t *testing.T) {
	for _, x := range []struct {
		r    record.Rec
		want string
	}{
		{record.Rec{Kind: record.Release, Proc: 1, Inc: 2, Seq: 3, Epoch: 300}, "\x03\x05\x01\x02\x03\xAC\x02"},
		{record.Rec{Kind: record.Bind, Seq: 1, Name: "ab"}, "\x09\x06\x00\x00\x01\x02ab"},
		{record.Rec{Kind: record.Grant, Proc: 1, Inc: 2, Seq: 3, Epoch: 4, Until: 5}, "\x01\x05\x01\x02\x03\x04\x05"},
		{record.Rec{Kind: record.Renew, Proc: 1, Inc: 2, Seq: 3, Epoch: 4, Until: 5}, "\x02\x05\x01\x02\x03\x04\x05"},
		{record.Rec{Kind: record.Commit, Proc: 1, Inc: 2, Seq: 3, Epoch: 4, Version: 5, Size: 6, Crc: 7}, "\x04\x07\x01\x02\x03\x04\x05\x06\x07"},
		{record.Rec{Kind: record.Pin, Proc: 1, Inc: 2, Seq: 3, Version: 4, Until: 5}, "\x05\x05\x01\x02\x03\x04\x05"},
		{record.Rec{Kind: record.Unpin, Proc: 1, Inc: 2, Seq: 3, Version: 4}, "\x06\x04\x01\x02\x03\x04"},
		{record.Rec{Kind: record.Seal, Proc: 1, Inc: 2, Seq: 3}, "\x07\x03\x01\x02\x03"},
		{record.Rec{Kind: record.Compact, Proc: 1, Inc: 2, Seq: 3, Clock: 4}, "\x08\x04\x01\x02\x03\x04"},
		{record.Rec{Kind: record.Unbind, Proc: 1, Inc: 2, Seq: 3, Name: "x"}, "\x0A\x05\x01\x02\x03\x01x"},
		{record.Rec{Kind: record.Rename, Proc: 1, Inc: 2, Seq: 3, Name: "x", To: "yz"}, "\x0B\x08\x01\x02\x03\x01x\x02yz"},
	} {
		b, e := record.Put(x.r)
		if len(b) != len(x.want)+4 || !strings.HasPrefix(string(b), x.want) || e != api.OK {
			t.Fatalf("Put(%#v): %x, %d; want %x and a sum", x.r, b, e, x.want)
		}
		checkRight(t, x.r)
		checkParse(t, b, x.r, api.OK)
	}
}

// P6.1
func TestRight(t *testing.T) {
	for _, r := range rights() {
		checkRight(t, r)
	}
}

// P6.1: a kind that is none, whatever else is told.
func TestNoKind(t *testing.T) {
	for kind := range 256 {
		if kind >= 1 && kind <= lastKind {
			continue
		}
		checkWrong(t, record.Rec{Kind: uint8(kind)})
		checkWrong(t, record.Rec{Kind: uint8(kind), Proc: 1, Inc: 2, Seq: 3})
		checkWrong(t, record.Rec{Kind: uint8(kind), Name: "a"})
		checkWrong(t, record.Rec{Kind: uint8(kind), Name: "a", To: "b"})
	}
}

// P6.1: each field, of each kind, is told or must be empty.
func TestNotTold(t *testing.T) {
	for kind := uint8(1); kind <= lastKind; kind++ {
		for _, f := range fields {
			for _, n := range []uint64{1, most(f)} {
				for _, r := range []record.Rec{least(kind), full(kind)} {
					set(&r, f, n)
					if slices.Contains(all(kind), f) {
						checkRight(t, r)
					} else {
						checkWrong(t, r)
					}
				}
			}
		}
	}
}

// P6.1: one past a limit, and far more.
func TestPastLimits(t *testing.T) {
	for _, base := range []record.Rec{least(record.Commit), full(record.Commit)} {
		for _, n := range []uint64{65536, 65537, 1 << 32, 1<<32 + 1, 1<<48 + 1, 1 << 63, math.MaxUint64} {
			r := base
			r.Size = n
			checkWrong(t, r)
		}
		for _, n := range []uint64{1 << 32, 1<<32 + 1, 1<<33 - 1, 1 << 63, math.MaxUint64} {
			r := base
			r.Crc = n
			checkWrong(t, r)
		}
	}
	for _, kind := range []uint8{record.Bind, record.Unbind, record.Rename} {
		for _, f := range told[kind] {
			for _, n := range []uint64{0, 65, 66, 127, 128, 256 + 1, 65535, 65536 + 1} {
				for _, r := range []record.Rec{least(kind), full(kind)} {
					set(&r, f, n)
					checkWrong(t, r)
				}
			}
		}
	}
	checkWrong(t, record.Rec{Kind: record.Bind, Name: strings.Repeat("é", 33)}) // bytes, not runes
	checkRight(t, record.Rec{Kind: record.Bind, Name: strings.Repeat("é", 32)})
}

// P6.2
func TestParse(t *testing.T) {
	for _, r := range rights() {
		checkParse(t, written(r), r, api.OK)
	}
}

// P6.2: what is no frame, ahead of all that may be wrong in it.
func TestNoFrame(t *testing.T) {
	checkParse(t, nil, record.Rec{}, api.ErrShort)
	checkParse(t, []byte{}, record.Rec{}, api.ErrShort)
	checkParse(t, []byte{7}, record.Rec{}, api.ErrShort)
	checkParse(t, []byte{7, 0x80, 0}, record.Rec{}, api.ErrLong)
	checkParse(t, append([]byte{7, 0x80, 0x80, 4}, make([]byte, 65540)...), record.Rec{}, api.ErrLimit)
	for _, b := range [][]byte{written(full(record.Commit)), framed(0, nil), framed(12, nil), framed(record.Seal, []byte{1})} {
		for n := range b {
			checkParse(t, b[:n], record.Rec{}, api.ErrShort)
		}
		checkParse(t, append(slices.Clone(b), 0), record.Rec{}, api.ErrLong)
		checkParse(t, slices.Concat(b, b), record.Rec{}, api.ErrLong)
		for i := range b {
			if i == 1 { // the length: other bytes would be the sum
				continue
			}
			x := slices.Clone(b)
			x[i] ^= 0x10
			checkParse(t, x, record.Rec{}, api.ErrSum)
		}
	}
}

// P6.2: no such kind, whatever its body is.
func TestParseNoKind(t *testing.T) {
	for kind := range 256 {
		if kind >= 1 && kind <= lastKind {
			continue
		}
		for _, body := range []string{"", "\x00", "\x80\x00", "\x00\x00\x00", "\x00\x00\x00\x00", "\x00\x00\x00\x01a", "\x00\x00\x00\x05"} {
			checkFails(t, uint8(kind), body, api.ErrKind)
		}
	}
}

// P6.2: a body that ends in, or ahead of, any of its parts.
func TestParseShort(t *testing.T) {
	for kind := uint8(1); kind <= lastKind; kind++ {
		r := record.Rec{Kind: kind}
		for _, f := range all(kind) {
			set(&r, f, min(most(f), 300)) // numbers of two bytes, so that one can end within
		}
		body := bodyOf(r)
		for n := range body {
			checkFails(t, kind, string(body[:n]), api.ErrShort)
		}
	}
	for _, size := range []uint64{2, 64, 65, 1 << 31, 1<<32 + 1, 1 << 63, math.MaxUint64} {
		body := string(binary.AppendUvarint([]byte{0, 0, 0}, size))
		checkFails(t, record.Bind, body+"a", api.ErrShort)
		checkFails(t, record.Unbind, body+"a", api.ErrShort)
		checkFails(t, record.Rename, body+"a", api.ErrShort)
		checkFails(t, record.Rename, "\x00\x00\x00\x01a"+body[3:]+"a", api.ErrShort)
	}
}

// begins are what stands ahead of each part in a record's body.
func begins(r record.Rec) (l []string) {
	b := ""
	for _, f := range all(r.Kind) {
		l = append(l, b)
		if isText(f) {
			s := *textOf(&r, f)
			b += string(binary.AppendUvarint(nil, uint64(len(s)))) + s
			continue
		}
		b += string(binary.AppendUvarint(nil, *numberOf(&r, f)))
	}
	return l
}

// P6.2: a number that is not written shortest, or too great, at any place.
func TestParseLong(t *testing.T) {
	for kind := uint8(1); kind <= lastKind; kind++ {
		for _, begin := range begins(full(kind)) {
			for _, bad := range []string{"\x80\x00", "\xFF\x80\x00", strings.Repeat("\xFF", 9) + "\x02", strings.Repeat("\x80", 10)} {
				checkFails(t, kind, begin+bad, api.ErrLong)
				checkFails(t, kind, begin+bad+"\x00\x00\x00\x00", api.ErrLong)
			}
		}
	}
}

// P6.2: bytes behind the parts, ahead of what is not right in these.
func TestParseBehind(t *testing.T) {
	for kind := uint8(1); kind <= lastKind; kind++ {
		for _, r := range []record.Rec{least(kind), full(kind)} {
			for _, behind := range []string{"\x00", "\x01", "\x80", "\x00\x00\x00", "\x01a"} {
				checkFails(t, kind, string(bodyOf(r))+behind, api.ErrLong)
			}
		}
	}
	checkFails(t, record.Bind, "\x00\x00\x00\x00\x00", api.ErrLong)
	checkFails(t, record.Bind, "\x00\x00\x00\x41"+strings.Repeat("n", 66), api.ErrLong)
	checkFails(t, record.Commit, "\x00\x00\x00\x00\x00\x80\x80\x04\x00\x00", api.ErrLong)
}

// P6.2: parts that stand there, of a record that is not right.
func TestParseNotRight(t *testing.T) {
	const ahead = "\x01\x02\x03"
	const one = "\x01a"
	tooLong := "\x41" + strings.Repeat("n", 65)
	for _, kind := range []uint8{record.Bind, record.Unbind} {
		checkFails(t, kind, ahead+"\x00", api.ErrArg)
		checkFails(t, kind, ahead+tooLong, api.ErrArg)
	}
	for _, body := range []string{"\x00" + one, one + "\x00", "\x00\x00", tooLong + one, one + tooLong, tooLong + tooLong} {
		checkFails(t, record.Rename, ahead+body, api.ErrArg)
	}
	great := string(binary.AppendUvarint(nil, math.MaxUint64))
	for _, body := range []string{"\x80\x80\x04\x00", "\x00\x80\x80\x80\x80\x10", great + "\x00", "\x00" + great, great + great} {
		checkFails(t, record.Commit, ahead+"\x04\x05"+body, api.ErrArg)
	}
	longest := strings.Repeat("n", api.MaxBody-6)
	checkFails(t, record.Bind, ahead+string(binary.AppendUvarint(nil, uint64(len(longest))))+longest, api.ErrArg)
}

// P6.2: of several errors the first part's, and a part's ahead of what is not right in one ahead of it.
func TestParseFirst(t *testing.T) {
	checkFails(t, record.Seal, "\x80\x00\x80", api.ErrLong)
	checkFails(t, record.Release, "\x00\x00\x00\x80\x00\x01", api.ErrLong)
	checkFails(t, record.Rename, "\x00\x00\x00\x00", api.ErrShort)
	checkFails(t, record.Rename, "\x00\x00\x00\x00\x80\x00", api.ErrLong)
	checkFails(t, record.Rename, "\x00\x00\x00\x00\x03ab", api.ErrShort)
	checkFails(t, record.Rename, "\x00\x00\x00\x80\x00\x09a", api.ErrLong)
	checkFails(t, record.Rename, "\x00\x00\x00\x09\x80\x00", api.ErrShort)
	checkFails(t, record.Commit, "\x00\x00\x00\x00\x00\x80\x80\x04", api.ErrShort)
	checkFails(t, record.Commit, "\x00\x00\x00\x00\x00\x80\x80\x04\x80\x00", api.ErrLong)
}

// wanted is what Parse must answer to a frame of this kind and body, found by the library's reader.
func wanted(kind uint8, body []byte) (record.Rec, api.Errno) {
	if kind < 1 || kind > lastKind {
		return record.Rec{}, api.ErrKind
	}
	r := record.Rec{Kind: kind}
	e := api.OK
	for _, f := range all(kind) {
		n, used := binary.Uvarint(body)
		switch {
		case used == 0 && len(body) < binary.MaxVarintLen64:
			return record.Rec{}, api.ErrShort
		case used <= 0, len(binary.AppendUvarint(nil, n)) != used:
			return record.Rec{}, api.ErrLong
		}
		body = body[used:]
		switch {
		case !isText(f):
			*numberOf(&r, f) = n
		case n > uint64(len(body)):
			return record.Rec{}, api.ErrShort
		default:
			*textOf(&r, f) = string(body[:n])
			body = body[n:]
		}
		if n > most(f) || isText(f) && n == 0 {
			e = api.ErrArg
		}
	}
	if len(body) > 0 {
		e = api.ErrLong
	}
	if e != api.OK {
		return record.Rec{}, e
	}
	return r, api.OK
}

// everyBody goes over all bodies of at most five bytes of a few sorts, behind some that bring them to other parts.
func everyBody(f func(body []byte)) {
	var grow func(b []byte, left int)
	grow = func(b []byte, left int) {
		f(b)
		if left == 0 {
			return
		}
		for _, c := range []byte{0, 1, 3, 0x80, 0xFF} {
			grow(append(b, c), left-1)
		}
	}
	for _, ahead := range []string{"", "\x00\x00\x00", "\x05\x80\x01\x07", "\x00\x00\x00\x00\x00", "\xFF\xFF\xFF\xFF\xFF\xFF\xFF\xFF", "\x00\x00\x00\x00\x00\x80\x80"} {
		grow([]byte(ahead), 5)
	}
}

// P6.2, P6.5: whatever the body is; what is parsed is right, and put as the same bytes.
func TestParseAnything(t *testing.T) {
	everyBody(func(body []byte) {
		for kind := uint8(0); kind <= lastKind+1; kind++ {
			b := framed(kind, body)
			want, e := wanted(kind, body)
			checkParse(t, b, want, e)
			if e != api.OK {
				continue
			}
			if c, g := record.Put(want); !record.Right(want) || !bytes.Equal(b, c) || g != api.OK {
				t.Fatalf("%x, parsed, is put as %x, %d", b, c, g)
			}
		}
	})
}

// P6.3
func TestWord(t *testing.T) {
	words := []string{"", "grant", "renew", "release", "commit", "pin", "unpin", "seal", "compact", "bind", "unbind", "rename"}
	for kind := range 256 {
		want := ""
		if kind < len(words) {
			want = words[kind]
		}
		if s := record.Word(uint8(kind)); s != want {
			t.Fatalf("Word(%d): %q; want %q", kind, s, want)
		}
	}
	for i, kind := range []uint8{record.Grant, record.Renew, record.Release, record.Commit, record.Pin, record.Unpin, record.Seal, record.Compact, record.Bind, record.Unbind, record.Rename} {
		if int(kind) != i+1 {
			t.Fatalf("%s is %d", words[i+1], kind)
		}
	}
}

// P6.4: nothing of what is handed in is changed, what lies behind its length included.
func TestOnlyRead(t *testing.T) {
	for kind := uint8(0); kind <= lastKind+1; kind++ {
		b := framed(kind, bodyOf(full(kind)))
		n := len(b)
		whole := append(b, 1, 2, 3)
		was := slices.Clone(whole)
		record.Parse(whole[:n])
		record.Parse(whole[:n-1])
		record.Parse(whole[:n+1])
		if !bytes.Equal(whole, was) {
			t.Fatalf("changed: %x; was %x", whole, was)
		}
		r := full(kind)
		record.Right(r)
		record.Put(r)
		if r != full(kind) {
			t.Fatalf("changed: %#v", r)
		}
	}
}

// P6.4: what is answered is nobody else's.
func TestNewMemory(t *testing.T) {
	for kind := uint8(1); kind <= lastKind; kind++ {
		r := full(kind)
		first, _ := record.Put(r)
		second, _ := record.Put(r)
		behind := first[:cap(first)]
		for i := range behind {
			behind[i] = 0x55
		}
		third, _ := record.Put(r)
		if !bytes.Equal(second, written(r)) || !bytes.Equal(third, second) {
			t.Fatalf("shared: %x, %x", second, third)
		}
		parsed, _ := record.Parse(second)
		clear(second)
		if parsed != r {
			t.Fatalf("shared with what was handed in: %#v", parsed)
		}
	}
}

// P6.5: what is put is parsed as it was.
func TestParsedAsPut(t *testing.T) {
	for _, r := range rights() {
		b, e := record.Put(r)
		if e != api.OK {
			t.Fatalf("Put(%#v): %d", r, e)
		}
		checkParse(t, b, r, api.OK)
	}
}

// P6.5: no two records that are right are written alike.
func TestAlike(t *testing.T) {
	by := map[string]record.Rec{}
	for _, r := range rights() {
		b, _ := record.Put(r)
		if other, ok := by[string(b)]; ok && other != r {
			t.Fatalf("%x: %#v and %#v", b, r, other)
		}
		by[string(b)] = r
	}
}
