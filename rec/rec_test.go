package rec_test

import (
	"bytes"
	"encoding/binary"
	"encoding/hex"
	"math"
	"math/rand/v2"
	"regexp"
	"slices"
	"strings"
	"testing"

	"taximeter/api"
	"taximeter/rec"
)

const most = math.MaxUint64

// longest is as long as a tenant's name may be.
var longest = "z" + strings.Repeat("9", api.MaxName-1)

// kinds are those of records, by their numbers.
var kinds = []int{1, 2, 3, 4, 5}

// noKinds are the numbers at the edges of kinds, those whose lowest byte, or whose lowest bytes, are a kind's, and some far from them.
func noKinds() []int {
	l := []int{0, 6, 7, 8, 9, 127, 128, 254, 255, 256, 257, 512, math.MaxInt, math.MinInt, math.MaxInt32, math.MinInt32}
	for _, k := range kinds {
		l = append(l, -k, k+256, k-256, k+512, k+1<<16, k-1<<16, k+1<<32, k-1<<32, k+1<<62, k+math.MinInt, math.MaxInt-k)
	}
	return l
}

// prices are prices without edges: zero, the least and the greatest, and some between them.
func prices() []uint64 {
	l := []uint64{0, 1, 2, 0x000fffffffffffff, 0x0010000000000000, 0x3ff0000000000000, 0x7feffffffffffffe, 0x7fefffffffffffff}
	for _, f := range []float64{1e-300, 0.1, 0.25, 0.5, 2, 10, 1e18, 1e300} {
		l = append(l, math.Float64bits(f))
	}
	return l
}

// wrongPrices may not be, or have edges: zero with a sign, below 0, infinite, and not a number, by each single bit, with either sign.
func wrongPrices() []uint64 {
	l := []uint64{1 << 63, 1<<63 | 1, 0xbff0000000000000, 0xffefffffffffffff, 0x7ff0000000000000, 0xfff0000000000000, 0x7fffffffffffffff, most, 0x7ff8000000000001}
	for bit := range 52 {
		l = append(l, 0x7ff0000000000000|1<<bit, 0xfff0000000000000|1<<bit)
	}
	for _, x := range prices() {
		l = append(l, x|1<<63)
	}
	return l
}

// numbers are some from 1 on, those that show the order of their bytes among them.
func numbers() []uint64 {
	return []uint64{1, 2, 3, 24, 127, 128, 255, 256, 257, 0x0102, 1 << 16, 1<<31 - 1, 1 << 31, 1<<32 - 1, 1 << 32, 0x0102030405060708, 0xfffefdfcfbfaf9f8, 1<<63 - 1, 1 << 63, most - 1, most}
}

func names() []string {
	return []string{"a", "z", "b", "acme", "acme-1", "a-", "z0", "a9", "tenant-of-16-abc", longest}
}

// wrongNames are no tenant's names; some are longer than a byte can tell, by as much as a name has.
func wrongNames() []string {
	return []string{
		"", "1", "-", "1a", "-a", "0", "A", "Acme", "aCme", "a.b", "a:b", ".", ":", "a b", " a", "a ", "a_b", "a/", "a{", "`", "a`", "a\x00", "\x00", "a\n", "a\x7f", "\u00e4", "a\u00e4", "\uff41", "\xff", "a\x80",
		longest + "a", longest + longest, strings.Repeat("a", 127), strings.Repeat("a", 255), strings.Repeat("a", 256), strings.Repeat("a", 257), strings.Repeat("a", 260), strings.Repeat("a", 256+api.MaxName), strings.Repeat("a", 1<<16+1),
	}
}

// one is a record of a kind, all of whose fields differ.
func one(kind int) api.Record {
	r := api.Record{Seq: 0x1112131415161718, Kind: kind, Tenant: "acme-1"}
	has := plainHas(kind)
	if has.lease {
		r.Lease = 0x2122232425262728
	}
	if has.n {
		r.N = 0x3132333435363738
	}
	if has.bits {
		r.Bits = 0x3fd2434445464748
	}
	return r
}

// edges are records of all kinds with numbers at their edges.
func edges() []api.Record {
	var l []api.Record
	for _, kind := range kinds {
		for _, s := range []string{"a", "acme", longest} {
			for _, seq := range []uint64{1, 2, 1 << 63, most} {
				r := api.Record{Seq: seq, Kind: kind, Tenant: s}
				l = append(l, withFields(r)...)
			}
		}
	}
	return l
}

// withFields are records with all the fields of their kind, each at its edges.
func withFields(r api.Record) []api.Record {
	var l []api.Record
	switch r.Kind {
	case 1:
		for _, r.N = range append(numbers(), 0) {
			l = append(l, r)
		}
	case 2:
		for _, r.Bits = range prices() {
			l = append(l, r)
		}
	case 3, 4:
		for _, r.Lease = range []uint64{1, 2, 0x0102030405060708, most} {
			for _, r.N = range numbers() {
				l = append(l, r)
			}
			if r.N = 0; r.Kind == 4 {
				l = append(l, r)
			}
		}
	case 5:
		l = append(l, r)
	}
	return l
}

// The chapter's words once more, as plain as may be.

type fields struct {
	lease, n, bits bool
}

func plainHas(kind int) fields {
	return map[int]fields{1: {n: true}, 2: {bits: true}, 3: {lease: true, n: true}, 4: {lease: true, n: true}, 5: {}}[kind]
}

var plainName = regexp.MustCompile(`^[a-z][a-z0-9-]{0,15}$`)

// plainPrice tells whether bits are a price without edges.
func plainPrice(bits uint64) bool {
	f := math.Float64frombits(bits)
	return f > 0 && f <= math.MaxFloat64 || bits == 0
}

func plainCheck(r api.Record) api.Errno {
	has := plainHas(r.Kind)
	if r.Kind < 1 || r.Kind > 5 {
		return api.ErrKind
	}
	if !plainName.MatchString(r.Tenant) {
		return api.ErrName
	}
	if r.Seq == 0 || has.lease && r.Lease == 0 || r.Kind == 3 && r.N == 0 {
		return api.ErrRange
	}
	if has.bits && !plainPrice(r.Bits) {
		return api.ErrPrice
	}
	if !has.lease && r.Lease != 0 || !has.n && r.N != 0 || !has.bits && r.Bits != 0 {
		return api.ErrForm
	}
	return api.OK
}

// plainBytes are the bytes of a record of a kind, though it may not be: with a name of up to 255 bytes.
func plainBytes(r api.Record) []byte {
	b := []byte{byte(r.Kind)}
	b = binary.LittleEndian.AppendUint64(b, r.Seq)
	b = append(b, byte(len(r.Tenant)))
	b = append(b, r.Tenant...)
	has := plainHas(r.Kind)
	if has.lease {
		b = binary.LittleEndian.AppendUint64(b, r.Lease)
	}
	if has.n {
		b = binary.LittleEndian.AppendUint64(b, r.N)
	}
	if has.bits {
		b = binary.LittleEndian.AppendUint64(b, r.Bits)
	}
	return b
}

// plainDecode goes by places: the name begins at the tenth byte, and the fields behind it are as long as the kind tells.
func plainDecode(b []byte) (api.Record, api.Errno) {
	none := api.Record{}
	if len(b) == 0 {
		return none, api.ErrShort
	}
	has, of := plainHas(int(b[0])), map[bool]int{true: 8}
	if b[0] < 1 || b[0] > 5 {
		return none, api.ErrKind
	}
	if len(b) < 10 {
		return none, api.ErrShort
	}
	if b[9] > 16 {
		return none, api.ErrForm
	}
	lease := 10 + int(b[9])
	n := lease + of[has.lease]
	bits := n + of[has.n]
	end := bits + of[has.bits]
	if len(b) < end {
		return none, api.ErrShort
	}
	if len(b) > end {
		return none, api.ErrForm
	}
	r := api.Record{Seq: plainNumber(b[1:9]), Kind: int(b[0]), Tenant: string(b[10:lease]), Lease: plainNumber(b[lease:n]), N: plainNumber(b[n:bits]), Bits: plainNumber(b[bits:])}
	if err := plainCheck(r); err != api.OK {
		return none, err
	}
	return r, api.OK
}

func plainNumber(b []byte) uint64 {
	n := uint64(0)
	for i := range b {
		n = n<<8 | uint64(b[len(b)-1-i])
	}
	return n
}

// wantCheck holds a record against what is wrong with it: Encode has the same error, and nothing beside it.
func wantCheck(t *testing.T, r api.Record, want api.Errno) {
	t.Helper()
	if got := rec.Check(r); got != want {
		t.Errorf("Check(%+v) = %d; want %d", r, got, want)
	}
	b, err := rec.Encode(r)
	if err != want || want != api.OK && len(b) != 0 {
		t.Errorf("Encode(%+v) = %x, %d; want the error %d", r, b, err, want)
	}
}

// wantBoth holds a record that may be, and its bytes, against each other, both ways.
func wantBoth(t *testing.T, r api.Record, want []byte) {
	t.Helper()
	wantCheck(t, r, api.OK)
	if got, err := rec.Encode(r); !bytes.Equal(got, want) || err != api.OK {
		t.Errorf("Encode(%+v) = %x, %d; want %x", r, got, err, want)
	}
	if got, err := rec.Decode(want); got != r || err != api.OK {
		t.Errorf("Decode(%x) = %+v, %d; want %+v", want, got, err, r)
	}
}

// wantNone wants an error of bytes, and no record beside it.
func wantNone(t *testing.T, b []byte, want api.Errno) {
	t.Helper()
	if got, err := rec.Decode(b); got != (api.Record{}) || err != want {
		t.Errorf("Decode(%x) = %+v, %d; want the error %d", b, got, err, want)
	}
}

// P11.1: Has

func TestFieldsOfKinds(t *testing.T) {
	for _, c := range []struct {
		kind           int
		lease, n, bits bool
	}{
		{api.RecCap, false, true, false},
		{api.RecPrice, false, false, true},
		{api.RecReserve, true, true, false},
		{api.RecSettle, true, true, false},
		{api.RecClose, false, false, false},
	} {
		if lease, n, bits := rec.Has(c.kind); lease != c.lease || n != c.n || bits != c.bits {
			t.Errorf("Has(%d) = %t, %t, %t; want %t, %t, %t", c.kind, lease, n, bits, c.lease, c.n, c.bits)
		}
	}
}

func TestFieldsOfNoKinds(t *testing.T) {
	for _, kind := range noKinds() {
		if lease, n, bits := rec.Has(kind); lease || n || bits {
			t.Errorf("Has(%d) = %t, %t, %t", kind, lease, n, bits)
		}
	}
}

// P11.1: Check, and P11.2: Encode, which has Check's error

func TestRecordsThatMayBe(t *testing.T) {
	for _, kind := range kinds {
		wantCheck(t, one(kind), api.OK)
		for _, s := range names() {
			r := one(kind)
			r.Tenant = s
			wantCheck(t, r, api.OK)
		}
		for _, n := range numbers() {
			r := one(kind)
			r.Seq = n
			wantCheck(t, r, api.OK)
		}
	}
	for _, r := range edges() {
		wantCheck(t, r, api.OK)
	}
}

func TestKindsThatThereAreNot(t *testing.T) {
	for _, kind := range noKinds() {
		for _, like := range kinds {
			r := one(like)
			r.Kind = kind
			wantCheck(t, r, api.ErrKind)
		}
		wantCheck(t, api.Record{Kind: kind}, api.ErrKind)
		wantCheck(t, api.Record{Seq: 1, Kind: kind, Tenant: "a"}, api.ErrKind)
	}
	wantCheck(t, api.Record{}, api.ErrKind)
}

func TestNamesThatMayNotBe(t *testing.T) {
	for _, kind := range kinds {
		for _, s := range wrongNames() {
			r := one(kind)
			r.Tenant = s
			wantCheck(t, r, api.ErrName)
		}
	}
}

func TestNumbersThatMayNotBeZero(t *testing.T) {
	for _, kind := range kinds {
		r := one(kind)
		r.Seq = 0
		wantCheck(t, r, api.ErrRange)
	}
	for _, kind := range []int{api.RecReserve, api.RecSettle} {
		r := one(kind)
		r.Lease = 0
		wantCheck(t, r, api.ErrRange)
	}
	r := one(api.RecReserve)
	r.N = 0
	wantCheck(t, r, api.ErrRange)
	r.N = 1
	wantCheck(t, r, api.OK)
	// Of a cap and of what was used there may be none.
	for _, kind := range []int{api.RecCap, api.RecSettle} {
		r := one(kind)
		r.N = 0
		wantCheck(t, r, api.OK)
	}
}

func TestPricesThatMayNotBe(t *testing.T) {
	for _, x := range wrongPrices() {
		r := one(api.RecPrice)
		r.Bits = x
		wantCheck(t, r, api.ErrPrice)
	}
	for _, x := range prices() {
		r := one(api.RecPrice)
		r.Bits = x
		wantCheck(t, r, api.OK)
	}
}

// strays are a record with each of the fields that its kind has not, and with several, of a number.
func strays(r api.Record, n uint64) []api.Record {
	var l []api.Record
	has := plainHas(r.Kind)
	for set := 1; set < 8; set++ {
		lease, size, bits := set&1 != 0, set&2 != 0, set&4 != 0
		if lease && has.lease || size && has.n || bits && has.bits {
			continue
		}
		x := r
		if lease {
			x.Lease = n
		}
		if size {
			x.N = n
		}
		if bits {
			x.Bits = n
		}
		l = append(l, x)
	}
	return l
}

func TestFieldsOfAnotherKind(t *testing.T) {
	// Bits of other kinds are no price: whether they could be one is all the same.
	for _, n := range slices.Concat(numbers(), wrongPrices(), prices()[1:]) {
		count := 0
		for _, kind := range kinds {
			for _, r := range strays(one(kind), n) {
				wantCheck(t, r, api.ErrForm)
				count++
			}
		}
		if want := 3 + 3 + 1 + 1 + 7; count != want {
			t.Fatalf("%d records; want %d", count, want)
		}
	}
}

// fault is something that makes a record wrong, and by which error.
type fault struct {
	err api.Errno
	do  func(r *api.Record)
}

// faults are all that may be wrong with a record of a kind, in the order in which they are told; faults of one error stand side by side.
func faults(kind int) []fault {
	has := plainHas(kind)
	l := []fault{
		{api.ErrKind, func(r *api.Record) { r.Kind += 256 }},
		{api.ErrName, func(r *api.Record) { r.Tenant = "1" + r.Tenant }},
		{api.ErrRange, func(r *api.Record) { r.Seq = 0 }},
	}
	add := func(is bool, err api.Errno, do func(r *api.Record)) {
		if is {
			l = append(l, fault{err, do})
		}
	}
	add(has.lease, api.ErrRange, func(r *api.Record) { r.Lease = 0 })
	add(kind == api.RecReserve, api.ErrRange, func(r *api.Record) { r.N = 0 })
	add(has.bits, api.ErrPrice, func(r *api.Record) { r.Bits = 1 << 63 })
	add(!has.lease, api.ErrForm, func(r *api.Record) { r.Lease = 7 })
	add(!has.n, api.ErrForm, func(r *api.Record) { r.N = 7 })
	add(!has.bits, api.ErrForm, func(r *api.Record) { r.Bits = 0x7ff8000000000000 })
	return l
}

// Whichever of all that may be wrong comes together, the first one is told.
func TestTheFirstFaultIsTold(t *testing.T) {
	for _, kind := range kinds {
		l := faults(kind)
		for set := range 1 << len(l) {
			r, want := one(kind), api.OK
			for i := len(l) - 1; i >= 0; i-- {
				if set>>i&1 != 0 {
					l[i].do(&r)
					want = l[i].err
				}
			}
			wantCheck(t, r, want)
		}
	}
}

// pick answers one of some, by chance.
func pick[T any](r *rand.Rand, l ...T) T {
	return l[r.IntN(len(l))]
}

// someRecord is a record by chance; each part is wrong now and then.
func someRecord(r *rand.Rand) api.Record {
	x := api.Record{Seq: pick(r, numbers()...), Kind: pick(r, kinds...), Tenant: pick(r, names()...)}
	x = pick(r, withFields(x)...)
	seldom := func() bool { return r.IntN(8) == 0 }
	if seldom() {
		x.Kind = pick(r, noKinds()...)
	}
	if seldom() {
		x.Kind = pick(r, kinds...)
	}
	if seldom() {
		x.Tenant = pick(r, wrongNames()...)
	}
	if seldom() {
		x.Seq = 0
	}
	if seldom() {
		x.Lease = pick(r, append(numbers(), 0)...)
	}
	if seldom() {
		x.N = pick(r, append(numbers(), 0)...)
	}
	if seldom() {
		x.Bits = pick(r, slices.Concat(prices(), wrongPrices())...)
	}
	return x
}

func TestCheck(t *testing.T) {
	r := rand.New(rand.NewPCG(11, 1))
	told := map[api.Errno]int{}
	for range 20000 {
		x := someRecord(r)
		want := plainCheck(x)
		told[want]++
		wantCheck(t, x, want)
		if want == api.OK {
			wantBoth(t, x, plainBytes(x))
		}
	}
	for _, err := range []api.Errno{api.OK, api.ErrKind, api.ErrName, api.ErrRange, api.ErrPrice, api.ErrForm} {
		if told[err] < 100 {
			t.Errorf("only %d records of the error %d", told[err], err)
		}
	}
}

// P11.2: Encode and Decode

func TestBytesThatAreKnown(t *testing.T) {
	for _, c := range []struct {
		r    api.Record
		want string
	}{
		{api.Record{Seq: 1, Kind: api.RecCap, Tenant: "a", N: 5}, "01 0100000000000000 0161 0500000000000000"},
		{api.Record{Seq: 1, Kind: api.RecCap, Tenant: "a"}, "01 0100000000000000 0161 0000000000000000"},
		{api.Record{Seq: most, Kind: api.RecCap, Tenant: "a", N: most}, "01 ffffffffffffffff 0161 ffffffffffffffff"},
		{api.Record{Seq: 2, Kind: api.RecPrice, Tenant: "b", Bits: 0x3fd0000000000000}, "02 0200000000000000 0162 000000000000d03f"},
		{api.Record{Seq: 2, Kind: api.RecPrice, Tenant: "b"}, "02 0200000000000000 0162 0000000000000000"},
		{api.Record{Seq: 2, Kind: api.RecPrice, Tenant: "b", Bits: 1}, "02 0200000000000000 0162 0100000000000000"},
		{api.Record{Seq: 2, Kind: api.RecPrice, Tenant: "b", Bits: 0x7fefffffffffffff}, "02 0200000000000000 0162 ffffffffffffef7f"},
		{api.Record{Seq: 258, Kind: api.RecReserve, Tenant: "acme", Lease: 3, N: 24}, "03 0201000000000000 0461636d65 0300000000000000 1800000000000000"},
		{api.Record{Seq: 0x0102030405060708, Kind: api.RecReserve, Tenant: "a-1", Lease: 0x1112131415161718, N: 0x2122232425262728}, "03 0807060504030201 03612d31 1817161514131211 2827262524232221"},
		{api.Record{Seq: 9, Kind: api.RecSettle, Tenant: "z9", Lease: 1}, "04 0900000000000000 027a39 0100000000000000 0000000000000000"},
		{api.Record{Seq: 9, Kind: api.RecSettle, Tenant: "z9", Lease: most, N: most}, "04 0900000000000000 027a39 ffffffffffffffff ffffffffffffffff"},
		{api.Record{Seq: 1 << 63, Kind: api.RecClose, Tenant: "abcdefghijklmnop"}, "05 0000000000000080 106162636465666768696a6b6c6d6e6f70"},
		{api.Record{Seq: 1, Kind: api.RecClose, Tenant: "a"}, "05 0100000000000000 0161"},
	} {
		want, err := hex.DecodeString(strings.ReplaceAll(c.want, " ", ""))
		if err != nil {
			t.Fatal(err)
		}
		wantBoth(t, c.r, want)
	}
}

// A record has as many bytes as its name, and as the fields of its kind.
func TestSizes(t *testing.T) {
	sizes := map[int]int{api.RecCap: 8, api.RecPrice: 8, api.RecReserve: 16, api.RecSettle: 16, api.RecClose: 0}
	for _, r := range edges() {
		b, err := rec.Encode(r)
		if want := 10 + len(r.Tenant) + sizes[r.Kind]; len(b) != want || err != api.OK {
			t.Errorf("%+v: %d bytes, %d; want %d", r, len(b), err, want)
		}
	}
}

func TestBytesThatEndTooEarly(t *testing.T) {
	wantNone(t, nil, api.ErrShort)
	wantNone(t, []byte{}, api.ErrShort)
	for _, kind := range kinds {
		for _, s := range names() {
			r := one(kind)
			r.Tenant = s
			b := plainBytes(r)
			for n := range len(b) {
				wantNone(t, b[:n], api.ErrShort) // what lies behind the end is no part of it
				wantNone(t, slices.Clone(b[:n]), api.ErrShort)
			}
		}
	}
}

// Whatever is wrong with a record is told behind the bytes that it lacks, but the kind.
func TestBytesOfWrongRecordsThatEndTooEarly(t *testing.T) {
	for _, kind := range kinds {
		r := api.Record{Kind: kind, Bits: 1 << 63}
		b := plainBytes(r)
		for n := range len(b) {
			wantNone(t, b[:n], api.ErrShort)
		}
		r.Tenant = "1A"
		b = plainBytes(r)
		for n := range len(b) {
			wantNone(t, b[:n], api.ErrShort)
		}
	}
}

func TestBytesThatAreLeft(t *testing.T) {
	for _, kind := range kinds {
		b := plainBytes(one(kind))
		for _, more := range [][]byte{{0}, {1}, {byte(kind)}, {255}, make([]byte, 7), make([]byte, 8), make([]byte, 16), make([]byte, 300), b} {
			wantNone(t, slices.Concat(b, more), api.ErrForm)
		}
	}
	// Of a record that may not be, too.
	for _, kind := range kinds {
		for _, s := range []string{"", "1", "A", longest} {
			wrong := plainBytes(api.Record{Kind: kind, Tenant: s, Bits: 1 << 63})
			wantNone(t, append(wrong, 0), api.ErrForm)
		}
	}
}

// A kind's bytes are another one's, if that has as many fields; else they are too few, or too many.
func TestBytesWithAnotherKind(t *testing.T) {
	size := func(kind int) int { return len(plainBytes(one(kind))) }
	for _, kind := range kinds {
		for _, other := range kinds {
			b := plainBytes(one(kind))
			b[0] = byte(other)
			switch {
			case size(kind) < size(other):
				wantNone(t, b, api.ErrShort)
			case size(kind) > size(other):
				wantNone(t, b, api.ErrForm)
			default:
				want, _ := plainDecode(b)
				wantBoth(t, want, b)
			}
		}
	}
}

// A text's length above what may be is told wherever the bytes end, as it is told ahead of them.
func TestNamesThatAreTooLong(t *testing.T) {
	for _, kind := range kinds {
		for n := api.MaxName + 1; n <= 255; n++ {
			for _, first := range []uint64{1, 0} {
				r := one(kind)
				r.Seq = first
				r.Tenant = strings.Repeat("a", n)
				b := plainBytes(r)
				wantNone(t, b, api.ErrForm)
				wantNone(t, append(slices.Clone(b), 0), api.ErrForm)
				for _, end := range []int{10, 11, 10 + api.MaxName, 9 + n, 10 + n, len(b) - 1} {
					wantNone(t, b[:end], api.ErrForm)
				}
				wantNone(t, b[:9], api.ErrShort)
			}
		}
	}
}

// A first byte that is no kind is told whatever is behind it.
func TestFirstBytesThatAreNoKind(t *testing.T) {
	for first := range 256 {
		if 1 <= first && first <= 5 {
			continue
		}
		wantNone(t, []byte{byte(first)}, api.ErrKind)
		for _, kind := range kinds {
			b := plainBytes(one(kind))
			b[0] = byte(first)
			for n := 1; n <= len(b); n++ {
				wantNone(t, b[:n], api.ErrKind)
			}
			wantNone(t, append(b, 0), api.ErrKind)
			wantNone(t, slices.Concat(b, b), api.ErrKind)
		}
		for _, n := range []int{1, 7, 8, 9, 10, 17, 18, 300} {
			wantNone(t, append([]byte{byte(first)}, make([]byte, n)...), api.ErrKind)
			wantNone(t, append([]byte{byte(first)}, bytes.Repeat([]byte{255}, n)...), api.ErrKind)
		}
	}
}

func TestBytesOfRecordsThatMayNotBe(t *testing.T) {
	for _, kind := range kinds {
		for _, s := range wrongNames() {
			if r := one(kind); len(s) <= api.MaxName {
				r.Tenant = s
				wantNone(t, plainBytes(r), api.ErrName)
			}
		}
		r := one(kind)
		r.Seq = 0
		wantNone(t, plainBytes(r), api.ErrRange)
	}
	for _, kind := range []int{api.RecReserve, api.RecSettle} {
		r := one(kind)
		r.Lease = 0
		wantNone(t, plainBytes(r), api.ErrRange)
	}
	r := one(api.RecReserve)
	r.N = 0
	wantNone(t, plainBytes(r), api.ErrRange)
	for _, x := range wrongPrices() {
		r := one(api.RecPrice)
		r.Bits = x
		wantNone(t, plainBytes(r), api.ErrPrice)
	}
	wantNone(t, make([]byte, 18), api.ErrKind)
}

// Of bytes, too, the first of all that is wrong is told. (Fields of another kind have no bytes.)
func TestTheFirstFaultOfBytesIsTold(t *testing.T) {
	for _, kind := range kinds {
		l := slices.DeleteFunc(faults(kind), func(f fault) bool {
			return f.err == api.ErrForm || f.err == api.ErrKind
		})
		for set := range 1 << len(l) {
			r := one(kind)
			want := api.OK
			for i := len(l) - 1; i >= 0; i-- {
				if set>>i&1 != 0 {
					l[i].do(&r)
					want = l[i].err
				}
			}
			b := plainBytes(r)
			if want != api.OK {
				wantNone(t, b, want)
			} else {
				wantBoth(t, r, b)
			}
			wantNone(t, b[:len(b)-1], api.ErrShort)
			wantNone(t, append(slices.Clone(b), 0), api.ErrForm)
			b[0] += 5
			wantNone(t, b, api.ErrKind)
		}
	}
}

// wantDecode holds what bytes are against the chapter's words once more.
func wantDecode(t *testing.T, b []byte) api.Errno {
	t.Helper()
	want, err := plainDecode(b)
	if err == api.OK {
		wantBoth(t, want, b)
	} else {
		wantNone(t, b, err)
	}
	return err
}

// someBytes are a record's by chance, changed in some places.
func someBytes(r *rand.Rand) []byte {
	x := someRecord(r)
	x.Tenant = x.Tenant[:min(len(x.Tenant), 200)]
	b := plainBytes(x)
	for range r.IntN(3) {
		switch at := r.IntN(len(b)); r.IntN(4) {
		case 0:
			b[at] = byte(r.IntN(256))
		case 1:
			b[0] = byte(r.IntN(8))
		case 2:
			b = append(b, byte(r.IntN(3)))
		case 3:
			b = b[:1+at]
		}
	}
	return b
}

func TestDecode(t *testing.T) {
	r := rand.New(rand.NewPCG(11, 2))
	told := map[api.Errno]int{}
	for range 20000 {
		told[wantDecode(t, someBytes(r))]++
	}
	for _, err := range []api.Errno{api.OK, api.ErrShort, api.ErrForm, api.ErrKind, api.ErrName, api.ErrRange, api.ErrPrice} {
		if told[err] < 100 {
			t.Errorf("only %d records of the error %d", told[err], err)
		}
	}
}

// Of each record each byte is changed to each other one.
func TestDecodeOfEachByte(t *testing.T) {
	for _, kind := range kinds {
		whole := plainBytes(one(kind))
		for at := range whole {
			for x := range 256 {
				b := slices.Clone(whole)
				b[at] = byte(x)
				wantDecode(t, b)
			}
		}
	}
}

func TestEncodeAnswersNewMemory(t *testing.T) {
	for _, kind := range kinds {
		r := one(kind)
		want := plainBytes(r)
		first, _ := rec.Encode(r)
		second, _ := rec.Encode(r)
		clear(first[:cap(first)])
		if !bytes.Equal(second, want) {
			t.Errorf("kind %d: an answer shares memory with another: %x", kind, second)
		}
		if third, _ := rec.Encode(r); !bytes.Equal(third, want) {
			t.Errorf("kind %d: an answer is kept: %x", kind, third)
		}
		if r != one(kind) {
			t.Errorf("kind %d: the record is changed: %+v", kind, r)
		}
	}
}

// roomFor is bytes with others in the room behind them.
func roomFor(b []byte) (part, all []byte) {
	all = slices.Concat(b, bytes.Repeat([]byte("#"), 40))
	return all[:len(b)], all
}

func TestDecodeLeavesWhatIsHandedIn(t *testing.T) {
	r := rand.New(rand.NewPCG(11, 3))
	for range 5000 {
		b := someBytes(r)
		part, all := roomFor(b)
		was := slices.Clone(all)
		got, err := rec.Decode(part)
		if !bytes.Equal(all, was) {
			t.Fatalf("%x is changed, or what is behind it: %x", b, all)
		}
		if again, also := rec.Decode(b); got != again || err != also {
			t.Fatalf("Decode(%x) = %+v, %d; with room behind it %+v, %d", b, again, also, got, err)
		}
	}
}

func TestDecodeKeepsNothing(t *testing.T) {
	for _, kind := range kinds {
		b := plainBytes(one(kind))
		r, err := rec.Decode(b)
		for i := range b {
			b[i] = 'x'
		}
		if r != one(kind) || err != api.OK {
			t.Errorf("kind %d: %+v, %d has the bytes that it was read from", kind, r, err)
		}
	}
}

// P11.3: records come back from their bytes

func TestRecordsComeBack(t *testing.T) {
	seen := map[string]api.Record{}
	for _, r := range edges() {
		b, err := rec.Encode(r)
		if err != api.OK {
			t.Fatalf("Encode(%+v): %d", r, err)
		}
		if got, err := rec.Decode(b); got != r || err != api.OK {
			t.Errorf("%+v comes back as %+v, %d", r, got, err)
		}
		wantBoth(t, r, plainBytes(r))
		if other, is := seen[string(b)]; is && other != r {
			t.Errorf("%+v and %+v have the same bytes %x", r, other, b)
		}
		seen[string(b)] = r
	}
}

func TestEachNumberComesBack(t *testing.T) {
	r := rand.New(rand.NewPCG(11, 4))
	for range 20000 {
		x := api.Record{Seq: 1 + r.Uint64N(most), Kind: pick(r, kinds...), Tenant: pick(r, names()...)}
		has := plainHas(x.Kind)
		if has.lease {
			x.Lease = 1 + r.Uint64N(most)>>r.UintN(64)
		}
		if has.n {
			x.N = 1 + r.Uint64N(most)>>r.UintN(64)
		}
		if has.bits {
			x.Bits = r.Uint64N(0x7ff0000000000000)
		}
		b, err := rec.Encode(x)
		if got, e := rec.Decode(b); err != api.OK || got != x || e != api.OK {
			t.Fatalf("%+v, %d comes back as %+v, %d", x, err, got, e)
		}
	}
}

func FuzzDecode(f *testing.F) {
	for _, kind := range kinds {
		f.Add(plainBytes(one(kind)))
	}
	f.Add([]byte{})
	f.Add([]byte{6})
	f.Fuzz(func(t *testing.T, b []byte) {
		wantDecode(t, b)
	})
}

func FuzzEncode(f *testing.F) {
	for _, kind := range append(kinds, 0, 6, -1, 257) {
		r := one(kind)
		f.Add(r.Seq, r.Kind, r.Tenant, r.Lease, r.N, r.Bits)
	}
	f.Fuzz(func(t *testing.T, seq uint64, kind int, s string, lease, n, bits uint64) {
		r := api.Record{Seq: seq, Kind: kind, Tenant: s, Lease: lease, N: n, Bits: bits}
		want := plainCheck(r)
		wantCheck(t, r, want)
		if want == api.OK {
			wantBoth(t, r, plainBytes(r))
		}
	})
}
