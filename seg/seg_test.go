package seg_test

import (
	"bytes"
	"encoding/binary"
	"encoding/hex"
	"fmt"
	"hash/crc32"
	"math"
	"math/rand/v2"
	"regexp"
	"slices"
	"strings"
	"testing"

	"taximeter/api"
	"taximeter/rec"
	"taximeter/seg"
)

const most = math.MaxUint64

// longest is as long as a tenant's name may be.
var longest = "z" + strings.Repeat("9", api.MaxName-1)

// beside is how many bytes of a box are not its own: two of their number, and four of the sum.
const beside = 6

// The chapter's words once more, as plain as may be, with the library's sum.

var plainName = regexp.MustCompile(`\Aw[0-9a-f]{16}\z`)

// plainNumber goes by the digits' places.
func plainNumber(name string) (uint64, api.Errno) {
	if !plainName.MatchString(name) {
		return 0, api.ErrForm
	}
	n := uint64(0)
	for _, c := range []byte(name[1:]) {
		n = n*16 + uint64(strings.IndexByte("0123456789abcdef", c))
	}
	return n, api.OK
}

// plainNumbers finds them out of order, each as often as it comes, and puts each in its place.
func plainNumbers(names []string) []uint64 {
	var l []uint64
	for _, s := range names {
		n, err := plainNumber(s)
		at := 0
		for at < len(l) && l[at] < n {
			at++
		}
		if err == api.OK && (at == len(l) || l[at] != n) {
			l = slices.Insert(l, at, n)
		}
	}
	return l
}

// sealed are the bytes of a box of some bytes, whatever they are.
func sealed(body []byte) []byte {
	b := append([]byte{byte(len(body)), byte(len(body) >> 8)}, body...)
	return binary.LittleEndian.AppendUint32(b, crc32.Checksum(b, crc32.MakeTable(crc32.Castagnoli)))
}

// plainFirst is what the first box of b has, if that is valid.
func plainFirst(b []byte) ([]byte, bool) {
	if len(b) < 2 {
		return nil, false
	}
	n := int(b[0]) + 256*int(b[1])
	if n == 0 || n > 4096 || len(b) < n+beside || !bytes.Equal(b[:n+beside], sealed(b[2:2+n])) {
		return nil, false
	}
	return b[2 : 2+n], true
}

func plainRecords(l [][]byte) []api.Record {
	var got []api.Record
	for _, b := range l {
		for {
			body, is := plainFirst(b)
			if !is {
				break
			}
			r, err := rec.Decode(body)
			if err != api.OK || len(got) > 0 && (got[len(got)-1].Seq == most || r.Seq != got[len(got)-1].Seq+1) {
				break
			}
			got = append(got, r)
			b = b[len(body)+beside:]
		}
	}
	return got
}

// short cuts a text that is told off at a length that can still be read.
func short(s string) string {
	return s[:min(len(s), 400)]
}

// closing is the shortest record of a number.
func closing(seq uint64) api.Record {
	return api.Record{Seq: seq, Kind: api.RecClose, Tenant: "a"}
}

// one is a record of a kind, all of whose fields differ.
func one(kind int, seq uint64, tenant string) api.Record {
	r := api.Record{Seq: seq, Kind: kind, Tenant: tenant}
	switch kind {
	case api.RecCap:
		r.N = 0x3132333435363738
	case api.RecPrice:
		r.Bits = 0x3fd2434445464748
	case api.RecReserve, api.RecSettle:
		r.Lease, r.N = 0x2122232425262728, 0x3132333435363738
	}
	return r
}

// row are records of all kinds, and of names short and long, whose numbers rise by one each.
func row(from uint64, n int) []api.Record {
	var l []api.Record
	for i := range n {
		l = append(l, one(1+i%5, from+uint64(i), []string{"a", "acme-1", longest}[i%3]))
	}
	return l
}

// plainBox is the box of a record that may be.
func plainBox(r api.Record) []byte {
	b, err := rec.Encode(r)
	if err != api.OK {
		panic(fmt.Sprintf("no record: %+v", r))
	}
	return sealed(b)
}

func boxes(l ...api.Record) []byte {
	var b []byte
	for _, r := range l {
		b = append(b, plainBox(r)...)
	}
	return b
}

// closings are the boxes of the shortest records of these numbers.
func closings(seqs ...uint64) []byte {
	var b []byte
	for _, seq := range seqs {
		b = append(b, plainBox(closing(seq))...)
	}
	return b
}

func seqs(l []api.Record) []uint64 {
	var s []uint64
	for _, r := range l {
		s = append(s, r.Seq)
	}
	return s
}

// wantName wants a number's name, and the number of that.
func wantName(t *testing.T, n uint64, want string) {
	t.Helper()
	if got := seg.Name(n); got != want {
		t.Errorf("Name(%d) = %q; want %q", n, got, want)
	}
	if got, err := seg.Number(want); got != n || err != api.OK {
		t.Errorf("Number(%q) = %d, %d; want %d", want, got, err, n)
	}
}

// wantNoName wants the error of a name that is none, and nothing beside it.
func wantNoName(t *testing.T, name string) {
	t.Helper()
	if got, err := seg.Number(name); got != 0 || err != api.ErrForm {
		t.Errorf("Number(%q) = %d, %d; want the error %d", short(name), got, err, api.ErrForm)
	}
	if got := seg.Numbers([]string{name}); len(got) != 0 {
		t.Errorf("Numbers of %q alone = %d", short(name), got)
	}
}

func wantNumbers(t *testing.T, names []string, want ...uint64) {
	t.Helper()
	if got := seg.Numbers(names); !slices.Equal(got, want) {
		t.Errorf("Numbers(%s) = %d; want %d", short(fmt.Sprintf("%q", names)), got, want)
	}
}

// wantRecords wants the records of segments, whole.
func wantRecords(t *testing.T, l [][]byte, want []api.Record) {
	t.Helper()
	if got := seg.Records(l); !slices.Equal(got, want) {
		t.Fatalf("Records(%s) = the numbers %d, %+v; want %d, %+v", short(fmt.Sprintf("%x", l)), seqs(got), got, seqs(want), want)
	}
}

// wantSeqs wants the shortest records of these numbers.
func wantSeqs(t *testing.T, l [][]byte, want ...uint64) {
	t.Helper()
	var records []api.Record
	for _, seq := range want {
		records = append(records, closing(seq))
	}
	wantRecords(t, l, records)
}

// P13.1: Name and Number

func TestNamesThatAreKnown(t *testing.T) {
	for _, c := range []struct {
		n    uint64
		want string
	}{
		{0, "w0000000000000000"},
		{1, "w0000000000000001"},
		{9, "w0000000000000009"},
		{10, "w000000000000000a"},
		{15, "w000000000000000f"},
		{16, "w0000000000000010"},
		{255, "w00000000000000ff"},
		{256, "w0000000000000100"},
		{1<<31 - 1, "w000000007fffffff"},
		{1 << 32, "w0000000100000000"},
		{0x0123456789abcdef, "w0123456789abcdef"},
		{0xfedcba9876543210, "wfedcba9876543210"},
		{1<<63 - 1, "w7fffffffffffffff"},
		{1 << 63, "w8000000000000000"},
		{most - 1, "wfffffffffffffffe"},
		{most, "wffffffffffffffff"},
	} {
		wantName(t, c.n, c.want)
	}
}

// Each digit stands at each place, alone and among others, and the numbers one below and above it turn the digits behind.
func TestEachDigitAtEachPlace(t *testing.T) {
	for place := range 16 {
		for digit := range uint64(16) {
			for _, among := range []uint64{0, 0x1111111111111111, most, 0x0123456789abcdef} {
				n := among&^(15<<(4*place)) | digit<<(4*place)
				for _, n := range []uint64{n - 1, n, n + 1} {
					wantName(t, n, fmt.Sprintf("w%016x", n))
				}
			}
		}
	}
}

// wrongNames are no segments' names.
func wrongNames() []string {
	right := "w00000000000000ff"
	l := []string{
		// Without digits, with too few, and too many.
		"", "w", "w0", "wff", right[:16], right[:2], right + "0", right + "f", "w0" + right[1:], "w" + strings.Repeat("0", 17), "w1" + strings.Repeat("0", 16), "w" + strings.Repeat("f", 17), right + right, right + right[1:],
		"w" + strings.Repeat("0", 255), "w" + strings.Repeat("0", 1<<16) + right[1:], "w" + strings.Repeat("f", 1<<16), strings.Repeat("w", 17),
		// Large letters.
		"W00000000000000ff", "W0000000000000000", "w00000000000000FF", "w00000000000000fF", "w00000000000000Ff", "w000000000000000A", "wA000000000000000", "wABCDEF0123456789", "wFFFFFFFFFFFFFFFF",
		// Another first letter, or none.
		"v00000000000000ff", "x00000000000000ff", "s0000000000000001", "000000000000000ff", "f00000000000000ff", "00000000000000ff", "0000000000000000f0", " 00000000000000ff", "-00000000000000ff", "\x0000000000000000ff", "ww0000000000000ff", "ww00000000000000ff", "w", "0", "snap", "0w000000000000ff",
		// A sign, and what else Go's own numbers may have.
		"w+0000000000000ff", "w-0000000000000ff", "w+00000000000000ff", "w-00000000000000ff", "+w00000000000000ff", "w-0000000000000000", "w-000000000000000", "w0x000000000000ff", "w0x00000000000000ff", "w0X000000000000ff", "w0o00000000000011", "w0000_0000_0000ff", "w0000_0000_0000_00ff", "w_000000000000ff", "w0000000000000.ff", "w00000000000000f.", "w0000000000001e10.",
		// Blanks, and bytes that are none of these.
		" " + right, right + " ", "w 00000000000000ff", "w 0000000000000ff", "w00000000000000f ", right + "\n", "\n" + right, right + "\x00", "w00000000000000f\n", "w00000000000000f\x00", "w00000000\x00000000f", "w0000000000000\xff\xff", "w00000000000000f\xff", "w00000000000000fg", "w00000000000000g0", "wg000000000000000", "w00000000000000f/", "w00000000000000f:", "w00000000000000f`", "w00000000000000f@", "w00000000000000fG",
		// Characters of several bytes: as many bytes as digits, and as many characters.
		"w00000000000000\u00e4", "w000000000000000\u00e4", "w0000000000000\uff11", "w000000000000000\uff11", "w000000000000000\u0661", "w\u06f100000000000000", "w\u00e40000000000000f", "\uff57000000000000ff", "\uff5700000000000000ff", "w000000000000\U0001d7d8", "w000000000000000\U0001d7d8", "\u00e400000000000000ff", "w" + strings.Repeat("\u00e4", 8), "w" + strings.Repeat("\u00e4", 16), "w000000000000000\ufffd", "\ufeff" + right, right + "\u0301",
		// A name with a way to it, or with something behind it.
		"./" + right, "/" + right, right + ".", right + ".old", right + "~", "w.00000000000000ff",
	}
	for place := range 16 {
		b := []byte("w" + strings.Repeat("a", 16))
		b[1+place] = 'A'
		l = append(l, string(b))
	}
	return l
}

func TestNamesThatAreNone(t *testing.T) {
	for _, name := range wrongNames() {
		wantNoName(t, name)
	}
}

// Of some names each byte is changed to each other one, is taken out, and comes in.
func TestEachByteOfAName(t *testing.T) {
	for _, right := range []string{"w0000000000000000", "w0123456789abcdef", "wffffffffffffffff"} {
		for at := range right {
			for x := range 256 {
				wantPlainName(t, right[:at]+string([]byte{byte(x)})+right[at+1:])
				wantNoName(t, right[:at]+string([]byte{byte(x)})+right[at:])
			}
			wantNoName(t, right[:at]+right[at+1:])
			wantNoName(t, right[:at])
			wantNoName(t, right[at:]+right[:at]+"0")
		}
	}
}

// wantPlainName holds a text against the chapter's words.
func wantPlainName(t *testing.T, s string) {
	t.Helper()
	n, err := plainNumber(s)
	if err != api.OK {
		wantNoName(t, s)
		return
	}
	wantName(t, n, s)
	wantNumbers(t, []string{s}, n)
}

// P13.1: Numbers

func TestNumbersOfNames(t *testing.T) {
	name := seg.Name
	wantNumbers(t, nil)
	wantNumbers(t, []string{})
	wantNumbers(t, []string{""})
	wantNumbers(t, []string{"snap"})
	wantNumbers(t, wrongNames())
	for _, n := range []uint64{0, 1, 15, 16, 255, 256, 1 << 63, most} {
		wantNumbers(t, []string{name(n)}, n)
		wantNumbers(t, []string{name(n), name(n)}, n)
		wantNumbers(t, []string{"snap", name(n), "", name(n), name(n)[1:]}, n)
	}
	wantNumbers(t, []string{name(1), name(2), name(3)}, 1, 2, 3)
	wantNumbers(t, []string{name(3), name(2), name(1)}, 1, 2, 3)
	wantNumbers(t, []string{name(2), name(3), name(1)}, 1, 2, 3)
	wantNumbers(t, []string{name(2), name(1), name(2), name(1), name(2)}, 1, 2)
	wantNumbers(t, []string{name(1), name(2), name(2), name(2), name(3), name(3)}, 1, 2, 3)
	wantNumbers(t, []string{name(most), name(0), name(1 << 63), name(1<<63 - 1)}, 0, 1<<63-1, 1<<63, most)
	wantNumbers(t, []string{name(10), name(9), name(16), name(15), name(160), name(100)}, 9, 10, 15, 16, 100, 160)
	wantNumbers(t, []string{"w0000000000000002", "snap", "w0000000000000001", "W0000000000000003", "w000000000000000A", "snap.new", "w000000000000004"}, 1, 2)
}

func TestManyNames(t *testing.T) {
	r := rand.New(rand.NewPCG(13, 1))
	wrong := wrongNames()
	for range 2000 {
		var names []string
		for range r.IntN(20) {
			// Of few numbers, so that some come twice; of all, so that none is too great.
			n := r.Uint64() >> r.IntN(64)
			switch r.IntN(4) {
			case 0:
				names = append(names, wrong[r.IntN(len(wrong))])
			case 1:
				names = append(names, fmt.Sprintf("w%016x", n))
			default:
				names = append(names, fmt.Sprintf("w%016x", n%5))
			}
		}
		wantNumbers(t, names, plainNumbers(names)...)
	}
}

func TestNumbersOfManyNames(t *testing.T) {
	// A call that went over all names anew for each one would not come to an end here in a test's time.
	const many = 200000
	var names []string
	for n := range uint64(many) {
		names = append(names, seg.Name(n), seg.Name(many-1-n))
	}
	got := seg.Numbers(names)
	if len(got) != many || got[0] != 0 || got[many-1] != many-1 {
		t.Errorf("%d numbers; want %d", len(got), many)
	}
}

func TestNumbersAreNew(t *testing.T) {
	room := []string{"snap", seg.Name(3), seg.Name(1), seg.Name(1), "w", seg.Name(2), seg.Name(9), seg.Name(8)}
	was := slices.Clone(room)
	names := room[1:6]
	got, again := seg.Numbers(names), seg.Numbers(names)
	if !slices.Equal(room, was) {
		t.Errorf("what was handed in is changed: %q", room)
	}
	clear(again[:cap(again)])
	clear(room)
	if !slices.Equal(got, []uint64{1, 2, 3}) {
		t.Errorf("what was answered is changed: %d", got)
	}
	if third := seg.Numbers(was[1:6]); !slices.Equal(third, []uint64{1, 2, 3}) {
		t.Errorf("an answer is kept: %d", third)
	}
}

// P13.2: Box

func TestBoxesThatAreKnown(t *testing.T) {
	for _, c := range []struct {
		r    api.Record
		want string
	}{
		{api.Record{Seq: 1, Kind: api.RecCap, Tenant: "a", N: 5}, "1300 01 0100000000000000 0161 0500000000000000 2e3a2dd3"},
		{api.Record{Seq: 2, Kind: api.RecPrice, Tenant: "b", Bits: 0x3fd0000000000000}, "1300 02 0200000000000000 0162 000000000000d03f 01d45828"},
		{api.Record{Seq: 258, Kind: api.RecReserve, Tenant: "acme", Lease: 3, N: 24}, "1e00 03 0201000000000000 0461636d65 0300000000000000 1800000000000000 e3498edf"},
		{api.Record{Seq: 9, Kind: api.RecSettle, Tenant: "z9", Lease: 1}, "1c00 04 0900000000000000 027a39 0100000000000000 0000000000000000 46161dda"},
		{api.Record{Seq: 1 << 63, Kind: api.RecClose, Tenant: "abcdefghijklmnop"}, "1a00 05 0000000000000080 106162636465666768696a6b6c6d6e6f70 e177cb8a"},
		{api.Record{Seq: most, Kind: api.RecClose, Tenant: "a"}, "0b00 05 ffffffffffffffff 0161 4299c69b"},
		{api.Record{Seq: 0x0102030405060708, Kind: api.RecReserve, Tenant: "abcdefghijklmnop", Lease: 0x1112131415161718, N: 0x2122232425262728}, "2a00 03 0807060504030201 106162636465666768696a6b6c6d6e6f70 1817161514131211 2827262524232221 d204f12e"},
	} {
		want, err := hex.DecodeString(strings.ReplaceAll(c.want, " ", ""))
		if err != nil {
			t.Fatal(err)
		}
		if got, err := seg.Box(c.r); !bytes.Equal(got, want) || err != api.OK {
			t.Errorf("Box(%+v) = %x, %d; want %x", c.r, got, err, want)
		}
		wantRecords(t, [][]byte{want}, []api.Record{c.r})
	}
}

// edges are records of every kind, of the shortest and the longest names, with numbers at their edges.
func edges() []api.Record {
	var l []api.Record
	for _, tenant := range []string{"a", "acme", longest} {
		for _, seq := range []uint64{1, 2, 255, 256, 1 << 63, most} {
			for kind := api.RecCap; kind <= api.RecClose; kind++ {
				l = append(l, one(kind, seq, tenant))
			}
			for _, n := range []uint64{0, 1, most} {
				l = append(l, api.Record{Seq: seq, Kind: api.RecCap, Tenant: tenant, N: n}, api.Record{Seq: seq, Kind: api.RecSettle, Tenant: tenant, Lease: most, N: n}, api.Record{Seq: seq, Kind: api.RecReserve, Tenant: tenant, Lease: 1, N: max(n, 1)}, api.Record{Seq: seq, Kind: api.RecPrice, Tenant: tenant, Bits: min(n, 0x7fefffffffffffff)})
			}
		}
	}
	return l
}

func TestBoxesOfEveryKind(t *testing.T) {
	for _, r := range edges() {
		want := plainBox(r)
		if got, err := seg.Box(r); !bytes.Equal(got, want) || err != api.OK {
			t.Errorf("Box(%+v) = %x, %d; want %x", r, got, err, want)
		}
		wantRecords(t, [][]byte{want}, []api.Record{r})
	}
}

// wrongRecords are those that layer 11 does not take, and why.
func wrongRecords() map[api.Record]api.Errno {
	l := map[api.Record]api.Errno{{}: api.ErrKind}
	with := func(kind int, err api.Errno, do func(r *api.Record)) {
		r := one(kind, 7, "acme")
		do(&r)
		l[r] = err
	}
	for kind := api.RecCap; kind <= api.RecClose; kind++ {
		for _, other := range []int{0, -1, 6, 255, 256, kind + 256, kind - 256, kind + 1<<32, -kind, math.MaxInt, math.MinInt} {
			with(kind, api.ErrKind, func(r *api.Record) { r.Kind = other })
		}
		for _, tenant := range []string{"", "1", "-a", "A", "aB", "a.b", "a:b", "a b", "a\x00", "\u00e4", "a\xff", longest + "a", strings.Repeat("a", 256), strings.Repeat("a", 257), strings.Repeat("a", 5000)} {
			with(kind, api.ErrName, func(r *api.Record) { r.Tenant = tenant })
		}
		with(kind, api.ErrRange, func(r *api.Record) { r.Seq = 0 })
	}
	for _, kind := range []int{api.RecReserve, api.RecSettle} {
		with(kind, api.ErrRange, func(r *api.Record) { r.Lease = 0 })
		with(kind, api.ErrForm, func(r *api.Record) { r.Bits = 1 })
	}
	with(api.RecReserve, api.ErrRange, func(r *api.Record) { r.N = 0 })
	for _, f := range []float64{-1, math.Copysign(0, -1), -math.SmallestNonzeroFloat64, math.Inf(1), math.Inf(-1), math.NaN()} {
		with(api.RecPrice, api.ErrPrice, func(r *api.Record) { r.Bits = math.Float64bits(f) })
	}
	for _, kind := range []int{api.RecCap, api.RecPrice, api.RecClose} {
		with(kind, api.ErrForm, func(r *api.Record) { r.Lease = most })
	}
	for _, kind := range []int{api.RecPrice, api.RecClose} {
		with(kind, api.ErrForm, func(r *api.Record) { r.N = 1 })
	}
	for _, kind := range []int{api.RecCap, api.RecClose} {
		with(kind, api.ErrForm, func(r *api.Record) { r.Bits = 1 << 63 })
	}
	// Where several are wrong, the first is told.
	with(api.RecCap, api.ErrKind, func(r *api.Record) { r.Kind, r.Tenant, r.Seq = 9, "1", 0 })
	with(api.RecCap, api.ErrName, func(r *api.Record) { r.Tenant, r.Seq, r.Lease = "1", 0, 1 })
	with(api.RecPrice, api.ErrRange, func(r *api.Record) { r.Seq, r.Bits, r.N = 0, 1<<63, 1 })
	with(api.RecPrice, api.ErrPrice, func(r *api.Record) { r.Bits, r.N = 1<<63, 1 })
	return l
}

func TestBoxesOfWrongRecords(t *testing.T) {
	for r, want := range wrongRecords() {
		if got, err := seg.Box(r); len(got) != 0 || err != want {
			t.Errorf("Box(%+v) = %x, %d; want the error %d", r, got, err, want)
		}
	}
}

func TestBoxIsNew(t *testing.T) {
	for _, r := range row(1, 15) {
		was, want := r, plainBox(r)
		got, _ := seg.Box(r)
		again, _ := seg.Box(r)
		clear(again[:cap(again)])
		if !bytes.Equal(got, want) {
			t.Errorf("an answer shares memory with another: %x; want %x", got, want)
		}
		clear(got[:cap(got)])
		if third, _ := seg.Box(r); !bytes.Equal(third, want) || r != was {
			t.Errorf("an answer is kept, or the record is changed: %x, %+v", third, r)
		}
	}
}

// P13.2: Records

func TestNoSegments(t *testing.T) {
	for _, l := range [][][]byte{nil, {}, {nil}, {{}}, {nil, {}, nil}, make([][]byte, 1000), {closings(1)[:0]}, {{0}}, {{1}}, {{255, 255}, {0, 0, 0, 0}, []byte("snap")}} {
		if got := seg.Records(l); len(got) != 0 {
			t.Errorf("Records(%x) = %+v", l, got)
		}
	}
}

func TestOneSegment(t *testing.T) {
	for _, first := range []uint64{1, 2, 7, 255, 256, 1 << 32, 1<<63 - 3, most - 20} {
		l := row(first, 20)
		for n := range len(l) + 1 {
			wantRecords(t, [][]byte{boxes(l[:n]...)}, l[:n])
		}
	}
}

func TestSeveralSegments(t *testing.T) {
	l := row(5, 30)
	wantRecords(t, [][]byte{boxes(l[:10]...), boxes(l[10:20]...), boxes(l[20:]...)}, l)
	wantRecords(t, [][]byte{boxes(l[:1]...), boxes(l[1:29]...), boxes(l[29:]...)}, l)
	var each [][]byte
	for _, r := range l {
		each = append(each, plainBox(r))
	}
	wantRecords(t, each, l)
}

func TestSegmentsWithNoBytes(t *testing.T) {
	a, b := closings(1, 2), closings(3)
	for _, none := range [][]byte{nil, {}, a[:0], a[len(a):]} {
		for _, l := range [][][]byte{{none, a, b}, {none, none, a, b}, {a, none, b}, {a, none, none, none, b}, {a, b, none}, {a, b, none, none}, {none, a, none, b, none}} {
			wantSeqs(t, l, 1, 2, 3)
		}
	}
}

// Whichever number the first record has, only the next one is awaited behind it, in the same segment and at the beginning of the next one.
func TestNumbersThatAreNotAwaited(t *testing.T) {
	for _, last := range []uint64{1, 2, 9, 255, 256, 1<<32 - 1, 1 << 63, most - 5} {
		ahead := closings(last)
		for _, other := range []uint64{last, last + 2, last + 3, last + 256, last + 1<<32, last + 1 ^ 1<<63, last - 1, last / 2, 1, most - 1} {
			if other == 0 || other == last+1 {
				continue
			}
			wantSeqs(t, [][]byte{slices.Concat(ahead, closings(other))}, last)
			wantSeqs(t, [][]byte{ahead, closings(other)}, last)
			wantSeqs(t, [][]byte{ahead, nil, closings(other)}, last)
			// What is behind it in its segment is lost, the awaited one, too; with the next segment it goes on.
			wantSeqs(t, [][]byte{slices.Concat(ahead, closings(other, last+1))}, last)
			wantSeqs(t, [][]byte{slices.Concat(ahead, closings(other, other+1))}, last)
			wantSeqs(t, [][]byte{ahead, closings(other, last+1)}, last)
			wantSeqs(t, [][]byte{slices.Concat(ahead, closings(other, last+1)), closings(last+1, last+2)}, last, last+1, last+2)
			wantSeqs(t, [][]byte{ahead, closings(other, last+1), closings(last + 1)}, last, last+1)
			// What was not taken is not the record ahead.
			if other != last {
				wantSeqs(t, [][]byte{slices.Concat(ahead, closings(other)), closings(other + 1)}, last)
				wantSeqs(t, [][]byte{ahead, closings(other), closings(other + 1), closings(other)}, last)
			}
		}
	}
}

func TestTheSameSegmentTwice(t *testing.T) {
	a, b := closings(1, 2, 3), closings(4, 5)
	wantSeqs(t, [][]byte{a, a}, 1, 2, 3)
	wantSeqs(t, [][]byte{a, a, b}, 1, 2, 3, 4, 5)
	wantSeqs(t, [][]byte{a, b, a}, 1, 2, 3, 4, 5)
	wantSeqs(t, [][]byte{a, b, b, a, a, closings(6)}, 1, 2, 3, 4, 5, 6)
	wantSeqs(t, [][]byte{b, a}, 4, 5)
	// A segment whose beginning is there already is not taken from where it goes on.
	wantSeqs(t, [][]byte{a, closings(3, 4, 5)}, 1, 2, 3)
	wantSeqs(t, [][]byte{a, closings(2, 3, 4)}, 1, 2, 3)
}

// Behind the greatest number there is none that is one more.
func TestBehindTheGreatestNumber(t *testing.T) {
	for _, behind := range []uint64{1, 2, 7, 1 << 63, most - 1, most} {
		wantSeqs(t, [][]byte{closings(most-1, most, behind)}, most-1, most)
		wantSeqs(t, [][]byte{closings(most - 1), closings(most), closings(behind, max(behind+1, 1))}, most-1, most)
		wantSeqs(t, [][]byte{closings(most), closings(behind), nil, closings(behind)}, most)
	}
	zero := sealed(slices.Concat([]byte{5}, make([]byte, 8), []byte("\x01a")))
	wantSeqs(t, [][]byte{slices.Concat(closings(most), zero, closings(1))}, most)
	wantSeqs(t, [][]byte{closings(most), zero, closings(1)}, most)
	wantSeqs(t, [][]byte{zero, closings(1)}, 1)
}

// noRecords are the bytes of boxes that are valid, with bytes that are no record of the number 3.
func noRecords() [][]byte {
	b, _ := rec.Encode(api.Record{Seq: 3, Kind: api.RecCap, Tenant: "acme", N: 5})
	with := func(at int, x byte) []byte {
		c := bytes.Clone(b)
		c[at] = x
		return c
	}
	bodies := [][]byte{
		{0}, {5}, {1, 2, 3}, []byte("abc"), make([]byte, 19), bytes.Repeat([]byte{255}, api.MaxBody), make([]byte, api.MaxBody),
		b[:1], b[:len(b)-1], append(bytes.Clone(b), 0), slices.Concat(b, b), sealed(b),
		with(0, 0), with(0, 6), with(0, 255), with(0, 3), with(0, 5), with(1, 0), with(9, 0), with(9, 3), with(9, 5), with(9, 17), with(9, 255), with(10, 'A'), with(10, '1'), with(13, '.'),
	}
	price, _ := rec.Encode(api.Record{Seq: 3, Kind: api.RecPrice, Tenant: "a", Bits: 0x3fd0000000000000})
	price[len(price)-1] |= 128
	lease, _ := rec.Encode(api.Record{Seq: 3, Kind: api.RecReserve, Tenant: "a", Lease: 1, N: 1})
	lease[11] = 0
	var l [][]byte
	for _, body := range append(bodies, price, lease) {
		l = append(l, sealed(body))
	}
	return l
}

// noBoxes are bytes that are no valid box, though they look like one of the number 3.
func noBoxes() [][]byte {
	b := closings(3)
	l := [][]byte{{0}, {1}, {0, 0}, {255, 255}, {1, 16}, make([]byte, 50), []byte("abc"), slices.Concat([]byte{0, 0}, b), b[1:], slices.Concat([]byte{0}, b), b[:2]}
	for at := range b {
		c := bytes.Clone(b)
		c[at] ^= 4
		l = append(l, c)
	}
	return l
}

// A wrong box stands first, in the midst and last, with right boxes behind it, and right segments behind that.
func TestSegmentsWithAWrongBox(t *testing.T) {
	for _, wrong := range slices.Concat(noBoxes(), noRecords()) {
		// First of all: any record of the next segment may be the first one then.
		wantSeqs(t, [][]byte{wrong})
		wantSeqs(t, [][]byte{slices.Concat(wrong, closings(4, 5))})
		wantSeqs(t, [][]byte{slices.Concat(wrong, closings(4, 5)), closings(6)}, 6)
		wantSeqs(t, [][]byte{slices.Concat(wrong, closings(4, 5)), closings(9, 10), closings(11)}, 9, 10, 11)
		wantSeqs(t, [][]byte{wrong, wrong, closings(1)}, 1)
		// In the midst.
		wantSeqs(t, [][]byte{slices.Concat(closings(1, 2), wrong, closings(3, 4))}, 1, 2)
		wantSeqs(t, [][]byte{slices.Concat(closings(1, 2), wrong, closings(4, 5))}, 1, 2)
		wantSeqs(t, [][]byte{slices.Concat(closings(1, 2), wrong, closings(3)), closings(3, 4), closings(5)}, 1, 2, 3, 4, 5)
		wantSeqs(t, [][]byte{slices.Concat(closings(1, 2), wrong, closings(3)), closings(4)}, 1, 2)
		wantSeqs(t, [][]byte{slices.Concat(closings(1, 2), wrong, closings(3)), closings(4, 3), closings(3)}, 1, 2, 3)
		// Last.
		wantSeqs(t, [][]byte{slices.Concat(closings(1, 2), wrong)}, 1, 2)
		wantSeqs(t, [][]byte{slices.Concat(closings(1, 2), wrong), closings(3), closings(4)}, 1, 2, 3, 4)
		wantSeqs(t, [][]byte{closings(1), slices.Concat(closings(2), wrong), closings(3)}, 1, 2, 3)
		wantSeqs(t, [][]byte{closings(1, 2), slices.Concat(wrong, closings(3)), closings(3)}, 1, 2, 3)
	}
}

// mixed are segments, some of whose boxes are not right, some of whose bytes are no record, and some of whose numbers are others.
func mixed(r *rand.Rand) [][]byte {
	wrong := slices.Concat(noBoxes(), noRecords())
	next := 3 + r.Uint64()>>(1+r.IntN(63))
	var l [][]byte
	for range r.IntN(6) {
		var b []byte
		for range r.IntN(6) {
			records := row(next, 1+r.IntN(3))
			part := boxes(records...)
			switch r.IntN(12) {
			case 0:
				part = wrong[r.IntN(len(wrong))]
			case 1:
				part = part[:r.IntN(len(part))]
			case 2:
				part = append(part, byte(r.IntN(3)))
			case 3:
				next = max(next+uint64(r.IntN(5)), 3) - 2
			default:
				next += uint64(len(records))
			}
			b = append(b, part...)
		}
		l = append(l, b)
	}
	return l
}

func TestMixedSegments(t *testing.T) {
	r := rand.New(rand.NewPCG(13, 2))
	told := map[int]int{}
	for range 20000 {
		l := mixed(r)
		want := plainRecords(l)
		told[min(len(want), 10)]++
		wantRecords(t, l, want)
	}
	for n := range 11 {
		if told[n] < 100 {
			t.Errorf("only %d rows of %d records or more", told[n], n)
		}
	}
}

func TestRecordsAreNew(t *testing.T) {
	want := row(4, 12)
	all := slices.Concat(boxes(want[:7]...), boxes(want[7:]...), closings(16, 17), []byte("zz"))
	was := bytes.Clone(all)
	cut, end := len(boxes(want[:7]...)), len(boxes(want...))
	// Right boxes lie in the room behind each segment's end, and a right segment behind the list's: they are none of theirs.
	room := [][]byte{all[:cut], all[cut:end], all[end:]}
	l := room[:2]
	got, again := seg.Records(l), seg.Records(l)
	if !bytes.Equal(all, was) || &room[0][0] != &all[0] || len(room[0]) != cut || &room[1][0] != &all[cut] || len(room[1]) != end-cut || &room[2][0] != &all[end] {
		t.Fatal("what was handed in is changed")
	}
	if !slices.Equal(got, want) {
		t.Fatalf("%+v; want %+v", got, want)
	}
	clear(again[:cap(again)])
	for i := range all {
		all[i] = 'x'
	}
	clear(room)
	if !slices.Equal(got, want) {
		t.Errorf("what was answered is changed: %+v; want %+v", got, want)
	}
	if third := seg.Records([][]byte{was[:cut], was[cut:end]}); !slices.Equal(third, want) {
		t.Errorf("an answer is kept: %+v; want %+v", third, want)
	}
}

// What one call awaited the next one does not.
func TestCallsAreApart(t *testing.T) {
	for _, seq := range []uint64{5, 1, 9, 5, most, 1} {
		wantSeqs(t, [][]byte{closings(seq)}, seq)
	}
}

func TestManyRecords(t *testing.T) {
	// A call that went over all bytes anew for each record, or for each segment, would not come to an end here in a test's time.
	const many = 100000
	var one []byte
	var each [][]byte
	for i := range uint64(many) {
		b := closings(1 + i)
		one = append(one, b...)
		each = append(each, b)
	}
	for _, l := range [][][]byte{{one}, each} {
		if got := seg.Records(l); len(got) != many || got[0].Seq != 1 || got[many-1].Seq != many {
			t.Errorf("%d records of %d segments; want %d", len(got), len(l), many)
		}
	}
}

// P13.3

func TestNamesComeBackAndRise(t *testing.T) {
	r := rand.New(rand.NewPCG(13, 3))
	numbers := []uint64{0, 1, 9, 10, 15, 16, 17, 99, 100, 255, 256, 4095, 4096, 1<<32 - 1, 1 << 32, 1<<63 - 1, 1 << 63, most - 1, most}
	for range 5000 {
		numbers = append(numbers, r.Uint64()>>r.IntN(64))
	}
	for place := range 16 {
		for digit := range uint64(16) {
			numbers = append(numbers, digit<<(4*place), digit<<(4*place)-1)
		}
	}
	var names []string
	for _, n := range numbers {
		name := seg.Name(n)
		if got, err := seg.Number(name); got != n || err != api.OK {
			t.Fatalf("%d comes back as %d, %d", n, got, err)
		}
		names = append(names, name)
	}
	wantNumbers(t, names, slices.Compact(slices.Sorted(slices.Values(numbers)))...)
	slices.Sort(names)
	last := uint64(0)
	for _, name := range names {
		n, _ := seg.Number(name)
		if n < last {
			t.Fatalf("the name of %d stands behind that of %d", n, last)
		}
		last = n
	}
}

// box is Box's of a record that may be.
func box(t *testing.T, r api.Record) []byte {
	t.Helper()
	b, err := seg.Box(r)
	if err != api.OK {
		t.Fatalf("Box(%+v) = %d", r, err)
	}
	return b
}

// Of ten records in boxes all ways to cut them into segments are taken, with segments of no bytes between some.
func TestRecordsComeBack(t *testing.T) {
	l := row(3, 10)
	for cuts := range 1 << (len(l) - 1) {
		segments := [][]byte{nil}
		for i, r := range l {
			last := len(segments) - 1
			segments[last] = append(segments[last], box(t, r)...)
			if cuts>>i&1 != 0 {
				segments = append(segments, nil)
				if i%4 == 0 {
					segments = append(segments, []byte{})
				}
			}
		}
		wantRecords(t, segments, l)
	}
}

func TestManyRecordsComeBack(t *testing.T) {
	r := rand.New(rand.NewPCG(13, 4))
	some := edges()
	for range 300 {
		var l []api.Record
		segments := make([][]byte, 1+r.IntN(20))
		at := 0
		seq := 1 + r.Uint64()>>(1+r.IntN(60))
		for range r.IntN(200) {
			x := some[r.IntN(len(some))]
			x.Seq = seq
			seq++
			l = append(l, x)
			segments[at] = append(segments[at], box(t, x)...)
			if at < len(segments)-1 && r.IntN(8) == 0 {
				at++
			}
		}
		wantRecords(t, segments, l)
	}
}

// The last segment is cut off at each place: just the records that are whole come back.
func TestATornEnd(t *testing.T) {
	l := row(7, 14)
	for ahead := range len(l) {
		first := boxes(l[:ahead]...)
		last := boxes(l[ahead:]...)
		for cut := range len(last) + 1 {
			whole, end := ahead, 0
			for whole < len(l) && end+len(box(t, l[whole])) <= cut {
				end += len(box(t, l[whole]))
				whole++
			}
			for _, torn := range [][]byte{last[:cut], bytes.Clone(last[:cut])} {
				wantRecords(t, [][]byte{first, torn}, l[:whole])
				wantRecords(t, [][]byte{first, torn, nil}, l[:whole])
				// A journal goes on from there in another segment.
				wantRecords(t, [][]byte{first, torn, boxes(l[whole:]...)}, l)
			}
			// Zeros, and bytes that come from nowhere, are in the place of what was cut off.
			wantRecords(t, [][]byte{first, append(bytes.Clone(last[:end]), make([]byte, 60)...)}, l[:whole])
			wantRecords(t, [][]byte{first, append(bytes.Clone(last[:end]), "what was here ahead of it"...)}, l[:whole])
		}
	}
}

// A segment ahead of the last one is cut off, too: what is awaited then is in none of those behind it.
func TestATornMidst(t *testing.T) {
	l := row(1, 9)
	first, midst, last := boxes(l[:3]...), boxes(l[3:6]...), boxes(l[6:]...)
	for cut := range len(midst) {
		want := plainRecords([][]byte{first, midst[:cut]})
		wantRecords(t, [][]byte{first, midst[:cut], last}, want)
		wantRecords(t, [][]byte{first, midst[:cut], midst[cut:], last}, plainRecords([][]byte{first, midst[:cut], midst[cut:], last}))
		wantRecords(t, [][]byte{first, midst[:cut], midst, last}, plainRecords([][]byte{first, midst[:cut], midst, last}))
	}
}

// Of the last segment each byte is changed: what is ahead of its box comes back.
func TestAnEndWithAnotherByte(t *testing.T) {
	l := row(1, 8)
	first, last := boxes(l[:3]...), boxes(l[3:]...)
	for at := range last {
		for bit := range 8 {
			b := bytes.Clone(last)
			b[at] ^= 1 << bit
			whole, end := 3, 0
			for end+len(box(t, l[whole])) <= at {
				end += len(box(t, l[whole]))
				whole++
			}
			wantRecords(t, [][]byte{first, b}, l[:whole])
		}
	}
}

func FuzzNumber(f *testing.F) {
	for _, s := range append(wrongNames(), seg.Name(0), seg.Name(255), seg.Name(most)) {
		f.Add(s)
	}
	f.Fuzz(func(t *testing.T, s string) {
		wantPlainName(t, s)
		wantPlainName(t, "w"+s)
	})
}

func FuzzNumbers(f *testing.F) {
	f.Add("")
	f.Add("w0000000000000002 snap w0000000000000001 w0000000000000002")
	f.Fuzz(func(t *testing.T, s string) {
		names := strings.Split(s, " ")
		wantNumbers(t, names, plainNumbers(names)...)
	})
}

func FuzzRecords(f *testing.F) {
	f.Add([]byte{}, 0, 0)
	f.Add(closings(1, 2, 3), 17, 40)
	f.Add(slices.Concat(closings(1), noRecords()[0], closings(2)), 24, 0)
	f.Add(boxes(row(4, 7)...), 25, 100)
	f.Fuzz(func(t *testing.T, b []byte, one, two int) {
		was := bytes.Clone(b)
		one, two = max(one%(len(b)+1), 0), max(two%(len(b)+1), 0)
		if one > two {
			one, two = two, one
		}
		l := [][]byte{b[:one], b[one:two], b[two:]}
		wantRecords(t, l, plainRecords(l))
		// The parts are made boxes, so that records are met, too.
		l = [][]byte{sealed(b[:min(one, api.MaxBody)]), sealed(b[one:min(two, one+api.MaxBody)]), sealed(b[two:min(len(b), two+api.MaxBody)])}
		wantRecords(t, l, plainRecords(l))
		if !bytes.Equal(b, was) {
			t.Error("what was handed in is changed")
		}
	})
}
