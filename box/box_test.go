package box_test

import (
	"bytes"
	"encoding/binary"
	"hash/crc32"
	"math"
	"math/rand/v2"
	"slices"
	"testing"

	"taximeter/api"
	"taximeter/box"
)

// beside is how many bytes of a box are not its own: two of their number, and four of the sum.
const beside = 6

// some are n bytes that look like no rule, others for each seed.
func some(n int, seed uint64) []byte {
	r := rand.New(rand.NewPCG(seed, uint64(n)))
	b := make([]byte, n)
	for i := range b {
		b[i] = byte(r.Uint32())
	}
	return b
}

// bodies are bytes of all lengths that are edges, and some between: zeros, bytes with all bits set, others, and such as are boxes themselves.
func bodies() [][]byte {
	l := [][]byte{[]byte("a"), []byte("hello"), {0}, {255}, {1, 0}, {1, 0, 0}, {0, 0, 0, 0}, plainBox([]byte("a")), plainBox(some(300, 9))}
	for _, n := range []int{1, 2, 3, 4, 5, 6, 7, 8, 15, 16, 31, 32, 63, 64, 127, 128, 254, 255, 256, 257, 258, 511, 512, 513, 1023, 1024, 4000, api.MaxBody - 2, api.MaxBody - 1, api.MaxBody} {
		l = append(l, make([]byte, n), bytes.Repeat([]byte{255}, n), some(n, 1))
	}
	return l
}

// heads are bytes behind which a box may be put: some are boxes, some are not.
func heads() [][]byte {
	return [][]byte{nil, {}, {0}, {9, 9}, []byte("abc"), {0, 0, 0, 0, 0, 0, 0}, {1}, {1, 0, 'a'}, plainBox([]byte("a")), plainBox(some(api.MaxBody, 2)), some(5000, 3)}
}

// The chapter's words once more, as plain as may be, with the library's sum.

func sealed(b []byte) []byte {
	return binary.LittleEndian.AppendUint32(bytes.Clone(b), crc32.Checksum(b, crc32.MakeTable(crc32.Castagnoli)))
}

// numbered are the bytes of a box whose number and sum are so, though it may not be.
func numbered(n int, body []byte) []byte {
	return sealed(append([]byte{byte(n), byte(n >> 8)}, body...))
}

func plainBox(body []byte) []byte {
	return numbered(len(body), body)
}

func boxes(l ...[]byte) []byte {
	var b []byte
	for _, body := range l {
		b = append(b, plainBox(body)...)
	}
	return b
}

func plainNext(b []byte, at int) ([]byte, int, api.Errno) {
	if at < 0 || at > len(b) {
		return nil, 0, api.ErrRange
	}
	if len(b)-at < 2 {
		return nil, 0, api.ErrShort
	}
	n := int(b[at]) + 256*int(b[at+1])
	if n == 0 {
		return nil, 0, api.ErrForm
	}
	if n > 4096 {
		return nil, 0, api.ErrLong
	}
	if len(b)-at < 2+n+4 {
		return nil, 0, api.ErrShort
	}
	if !bytes.Equal(sealed(b[at:at+2+n]), b[at:at+2+n+4]) {
		return nil, 0, api.ErrSum
	}
	return b[at+2 : at+2+n], at + 2 + n + 4, api.OK
}

func plainValid(b []byte) ([][]byte, int) {
	var l [][]byte
	at := 0
	for {
		body, behind, err := plainNext(b, at)
		if err != api.OK {
			return l, at
		}
		l = append(l, body)
		at = behind
	}
}

// short cuts bytes that are told off at a length that can still be read.
func short(b []byte) []byte {
	return b[:min(len(b), 40)]
}

func same(a, b [][]byte) bool {
	return slices.EqualFunc(a, b, bytes.Equal)
}

// wantPut wants bytes of a call, or its error and nothing beside it.
func wantPut(t *testing.T, b, body, want []byte, wantErr api.Errno) {
	t.Helper()
	got, err := box.Put(b, body)
	if err != wantErr || !bytes.Equal(got, want) {
		t.Fatalf("Put(%x, %x), of %d and %d bytes, = %x (%d), %d; want %x (%d), %d", short(b), short(body), len(b), len(body), short(got), len(got), err, short(want), len(want), wantErr)
	}
}

// wantNext wants the bytes of a box, and the place behind it.
func wantNext(t *testing.T, b []byte, at int, want []byte, wantBehind int) {
	t.Helper()
	got, behind, err := box.Next(b, at)
	if err != api.OK || behind != wantBehind || !bytes.Equal(got, want) {
		t.Fatalf("Next(%x (%d), %d) = %x (%d), %d, %d; want %x (%d), %d", short(b), len(b), at, short(got), len(got), behind, err, short(want), len(want), wantBehind)
	}
}

// wantNone wants an error at a place, and nothing beside it.
func wantNone(t *testing.T, b []byte, at int, want api.Errno) {
	t.Helper()
	got, behind, err := box.Next(b, at)
	if err != want || behind != 0 || len(got) != 0 {
		t.Fatalf("Next(%x (%d), %d) = %x, %d, %d; want the error %d", short(b), len(b), at, short(got), behind, err, want)
	}
}

// wantValid wants the bytes of boxes, and the place behind the last.
func wantValid(t *testing.T, b []byte, want [][]byte, wantAt int) {
	t.Helper()
	got, at := box.Valid(b)
	if at != wantAt || !same(got, want) {
		t.Fatalf("Valid(%x (%d)) = %d boxes up to %d; want %d up to %d", short(b), len(b), len(got), at, len(want), wantAt)
	}
}

// wantPlain holds a place of bytes against the chapter's words.
func wantPlain(t *testing.T, b []byte, at int) {
	t.Helper()
	body, behind, err := plainNext(b, at)
	if err != api.OK {
		wantNone(t, b, at, err)
		return
	}
	wantNext(t, b, at, body, behind)
}

// P12.1: Put

func TestBoxesThatAreKnown(t *testing.T) {
	for _, c := range []struct{ body, want string }{
		{"a", "\x01\x00a\x65\x21\x88\x56"},
		{"\x00", "\x01\x00\x00\x04\x31\x25\xc5"},
		{"hello", "\x05\x00hello\x0d\x4e\xde\xa9"},
	} {
		wantPut(t, nil, []byte(c.body), []byte(c.want), api.OK)
		wantPut(t, []byte("xy"), []byte(c.body), []byte("xy"+c.want), api.OK)
		wantNext(t, []byte(c.want), 0, []byte(c.body), len(c.want))
		wantValid(t, []byte(c.want), [][]byte{[]byte(c.body)}, len(c.want))
	}
}

func TestBoxesOfAllLengths(t *testing.T) {
	body := some(api.MaxBody, 4)
	for n := 1; n <= api.MaxBody; n++ {
		want := plainBox(body[:n])
		wantPut(t, nil, body[:n], want, api.OK)
		wantNext(t, want, 0, body[:n], n+beside)
	}
}

func TestNumberIsOfWidthTwo(t *testing.T) {
	for _, c := range []struct {
		n         int
		low, high byte
	}{{1, 1, 0}, {255, 255, 0}, {256, 0, 1}, {258, 2, 1}, {api.MaxBody - 1, 255, 15}, {api.MaxBody, 0, 16}} {
		b, err := box.Put(nil, make([]byte, c.n))
		if err != api.OK || len(b) != c.n+beside || b[0] != c.low || b[1] != c.high {
			t.Errorf("the box of %d bytes is %x (%d), %d", c.n, short(b), len(b), err)
		}
	}
}

func TestPutBehindOthers(t *testing.T) {
	for _, b := range heads() {
		for _, body := range bodies() {
			wantPut(t, b, body, slices.Concat(b, plainBox(body)), api.OK)
		}
	}
}

func TestNoBox(t *testing.T) {
	for _, b := range heads() {
		wantPut(t, b, nil, nil, api.ErrForm)
		wantPut(t, b, []byte{}, nil, api.ErrForm)
		wantPut(t, b, []byte("abc")[1:1], nil, api.ErrForm)
		for _, n := range []int{1, 2, 255, 256, 1 << 13, 1<<16 - api.MaxBody - 1, 1<<16 - api.MaxBody, 1<<16 - api.MaxBody + 1, 1 << 16, 1 << 20} {
			wantPut(t, b, make([]byte, api.MaxBody+n), nil, api.ErrLong)
		}
	}
}

func TestPutIsNew(t *testing.T) {
	for _, want := range []api.Errno{api.OK, api.ErrForm, api.ErrLong} {
		n := map[api.Errno]int{api.OK: 3, api.ErrForm: 0, api.ErrLong: api.MaxBody + 1}[want]
		room, more := some(64, 5), some(api.MaxBody+64, 6)
		b, body := room[:5], more[7:7+n]
		got, err := box.Put(b, body)
		again, _ := box.Put(b, body)
		if err != want || !bytes.Equal(room, some(64, 5)) || !bytes.Equal(more, some(api.MaxBody+64, 6)) {
			t.Fatalf("what was handed in is changed: %d", err)
		}
		kept := bytes.Clone(got)
		clear(room)
		clear(more)
		clear(again[:cap(again)])
		if !bytes.Equal(got, kept) {
			t.Errorf("what was answered is changed: %x; want %x", got, kept)
		}
		clear(got[:cap(got)])
		if !bytes.Equal(room, make([]byte, len(room))) || !bytes.Equal(more, make([]byte, len(more))) {
			t.Error("what was answered lies in what was handed in")
		}
	}
}

func TestPutOfItsOwnRoom(t *testing.T) {
	// The body lies where a box would come, were it put into the room behind b's end.
	room := some(100, 7)
	want := slices.Concat(room[:10], plainBox(room[10:30]))
	wantPut(t, room[:10], room[10:30], want, api.OK)
	wantPut(t, room[:10], room[:10], slices.Concat(room[:10], plainBox(room[:10])), api.OK)
	wantPut(t, room[:10], room[5:12], slices.Concat(room[:10], plainBox(room[5:12])), api.OK)
	if !bytes.Equal(room, some(100, 7)) {
		t.Error("what was handed in is changed")
	}
}

func TestTwoBoxesBehindOneBeginning(t *testing.T) {
	b := append(make([]byte, 0, 100), "xy"...)
	one, _ := box.Put(b, []byte("abc"))
	two, _ := box.Put(b, []byte("uvw"))
	if !bytes.Equal(one, slices.Concat(b, plainBox([]byte("abc")))) || !bytes.Equal(two, slices.Concat(b, plainBox([]byte("uvw")))) {
		t.Errorf("%x, %x", one, two)
	}
	three, _ := box.Put(one, []byte("k"))
	four, _ := box.Put(one, []byte("l"))
	if !bytes.Equal(three, slices.Concat(one, plainBox([]byte("k")))) || !bytes.Equal(four, slices.Concat(one, plainBox([]byte("l")))) {
		t.Errorf("%x, %x", three, four)
	}
}

// P12.1: Size

func TestSizeOfBoxes(t *testing.T) {
	body := make([]byte, api.MaxBody)
	for n := 1; n <= api.MaxBody; n++ {
		b, _ := box.Put(nil, body[:n])
		if got := box.Size(n); got != n+beside || got != len(b) {
			t.Fatalf("Size(%d) = %d; the box has %d bytes", n, got, len(b))
		}
	}
}

func TestSizeOfNoBoxes(t *testing.T) {
	for _, n := range []int{
		0, -1, -2, -5, -6, -7, -255, -256, -api.MaxBody, -1 << 16, -1<<16 + 1, math.MinInt, math.MinInt + 1, math.MinInt32,
		api.MaxBody + 1, api.MaxBody + 2, api.MaxBody + beside, 1 << 13, 1<<16 - 1, 1 << 16, 1<<16 + 1, 1<<32 + 1, math.MaxInt, math.MaxInt - 1, math.MaxInt - 5, math.MaxInt - 6, math.MaxInt32,
	} {
		if got := box.Size(n); got != 0 {
			t.Errorf("Size(%d) = %d", n, got)
		}
	}
	for n := api.MaxBody + 1; n < 1<<17; n++ {
		if box.Size(n) != 0 || box.Size(api.MaxBody-n) != 0 {
			t.Fatalf("Size(%d) = %d, Size(%d) = %d", n, box.Size(n), api.MaxBody-n, box.Size(api.MaxBody-n))
		}
	}
}

// P12.2: Next

func TestNextBoxes(t *testing.T) {
	l := bodies()
	b := boxes(l...)
	at := 0
	for _, body := range l {
		wantNext(t, b, at, body, at+len(body)+beside)
		at += len(body) + beside
	}
	wantNone(t, b, at, api.ErrShort)
}

func TestNextBehindOthers(t *testing.T) {
	for _, head := range heads() {
		for _, body := range bodies() {
			for _, tail := range heads() {
				b := slices.Concat(head, plainBox(body), tail)
				wantNext(t, b, len(head), body, len(head)+len(body)+beside)
			}
		}
	}
}

func TestPlacesThatThereAreNot(t *testing.T) {
	whole := boxes([]byte("hello"), []byte("a"))
	for _, b := range [][]byte{nil, {}, {1}, {0, 0}, {1, 16}, {255, 255}, whole, whole[:len(whole)-1], make([]byte, 0, 64), append(make([]byte, 0, 64), whole...)} {
		for _, at := range []int{-1, -2, -6, -len(b) - 1, -256, math.MinInt, math.MinInt + 1, math.MinInt32, len(b) + 1, len(b) + 2, len(b) + 6, len(b) + 64, 1 << 16, 1 << 32, math.MaxInt, math.MaxInt - 1, math.MaxInt - 5, math.MaxInt - 6, math.MaxInt32} {
			wantNone(t, b, at, api.ErrRange)
		}
		wantNone(t, b, len(b), api.ErrShort)
	}
}

func TestAllPlaces(t *testing.T) {
	for _, b := range [][]byte{
		boxes([]byte("hello"), []byte("a"), some(300, 8), []byte("a")),
		boxes(plainBox([]byte("a")), plainBox(some(40, 9))),
		make([]byte, 300), bytes.Repeat([]byte{255}, 300), bytes.Repeat([]byte{1, 0}, 150), bytes.Repeat([]byte{0, 16}, 150), some(300, 10),
	} {
		for at := -3; at <= len(b)+3; at++ {
			wantPlain(t, b, at)
		}
	}
}

func TestBoxInABox(t *testing.T) {
	// A place in a box is no worse than others, if there is a box.
	inner := plainBox([]byte("abc"))
	b := boxes([]byte("x"), inner, []byte("y"))
	wantNext(t, b, 7, inner, 7+len(inner)+beside)
	wantNext(t, b, 9, []byte("abc"), 9+len(inner))
	wantValid(t, b, [][]byte{[]byte("x"), inner, []byte("y")}, len(b))
}

func TestBytesThatEndTooEarly(t *testing.T) {
	for _, head := range [][]byte{nil, {7}, plainBox([]byte("hello"))} {
		for _, body := range [][]byte{[]byte("a"), []byte("hello"), some(256, 11), some(300, 12), some(api.MaxBody, 13), make([]byte, 20), plainBox([]byte("a"))} {
			b := slices.Concat(head, plainBox(body))
			for end := len(head); end < len(b); end++ {
				// With the box's other bytes in the room behind the end, and without.
				wantNone(t, b[:end], len(head), api.ErrShort)
				wantNone(t, bytes.Clone(b[:end]), len(head), api.ErrShort)
			}
			wantNext(t, b, len(head), body, len(b))
		}
	}
}

// TestAllNumbers goes through all that a number of width 2 may be, with nothing, too little and enough behind it.
func TestAllNumbers(t *testing.T) {
	room := make([]byte, 1<<16+64)
	for n := range 1 << 16 {
		room[0], room[1] = byte(n), byte(n>>8)
		early, enough := api.ErrShort, api.ErrSum
		switch {
		case n == 0:
			early, enough = api.ErrForm, api.ErrForm
		case n > api.MaxBody:
			early, enough = api.ErrLong, api.ErrLong
		}
		for _, end := range []int{2, 3, 2 + n/2, 2 + n, 2 + n + 1, 2 + n + 3} {
			if end < n+beside {
				wantNone(t, room[:end], 0, early)
			}
		}
		for _, end := range []int{n + beside, n + beside + 1, len(room)} {
			wantNone(t, room[:end], 0, enough)
		}
	}
}

func TestNumberThatMayNotBeIsSealed(t *testing.T) {
	for _, n := range []int{0, api.MaxBody + 1, api.MaxBody + 2, api.MaxBody + 256, 1 << 13, 1<<13 + 1, 1 << 15, 1<<16 - 2, 1<<16 - 1} {
		want := api.ErrLong
		if n == 0 {
			want = api.ErrForm
		}
		for _, b := range [][]byte{numbered(n, make([]byte, n)), numbered(n, some(n, 14)), numbered(n, nil), numbered(n, []byte("abc"))} {
			wantNone(t, b, 0, want)
			wantNone(t, append(b, 9, 9), 0, want)
			wantNone(t, append(bytes.Clone(b), boxes([]byte("hello"))...), 0, want)
			wantNone(t, slices.Concat([]byte("xyz"), b), 3, want)
			wantValid(t, b, nil, 0)
		}
	}
}

func TestSumsOfOtherBytes(t *testing.T) {
	table := crc32.MakeTable(crc32.Castagnoli)
	number, body := []byte{3, 0}, []byte("abc")
	whole := slices.Concat(number, body)
	for _, sum := range []uint32{
		0, math.MaxUint32,
		crc32.Checksum(body, table), crc32.Checksum(number, table), crc32.Checksum([]byte("abc\x03\x00"), table), crc32.Checksum([]byte("\x00\x03abc"), table),
		^crc32.Checksum(whole, table), crc32.ChecksumIEEE(whole), crc32.Checksum(whole, table) + 1, crc32.Checksum(whole, table) ^ 1<<31,
	} {
		wantNone(t, binary.LittleEndian.AppendUint32(bytes.Clone(whole), sum), 0, api.ErrSum)
	}
	wantNone(t, binary.BigEndian.AppendUint32(bytes.Clone(whole), crc32.Checksum(whole, table)), 0, api.ErrSum)
	wantNext(t, binary.LittleEndian.AppendUint32(bytes.Clone(whole), crc32.Checksum(whole, table)), 0, body, 9)
}

// TestErrorsInTheirOrder lays several wrongs into one place, so that the first is told.
func TestErrorsInTheirOrder(t *testing.T) {
	wrongSum := func(b []byte) []byte {
		b[len(b)-1] ^= 1
		return b
	}
	for _, c := range []struct {
		b    []byte
		at   int
		want api.Errno
	}{
		// A place that there is not, of bytes that are wrong in each of the ways.
		{nil, -1, api.ErrRange}, {nil, 1, api.ErrRange},
		{[]byte{1}, -1, api.ErrRange}, {[]byte{1}, 2, api.ErrRange},
		{numbered(0, nil), -1, api.ErrRange}, {numbered(0, nil), 7, api.ErrRange},
		{numbered(1<<13, nil), -1, api.ErrRange}, {numbered(1<<13, nil), 7, api.ErrRange},
		{wrongSum(boxes([]byte("a"))), -1, api.ErrRange}, {wrongSum(boxes([]byte("a"))), 8, api.ErrRange},
		// Fewer than two bytes, of a number that may not be.
		{nil, 0, api.ErrShort}, {[]byte{0}, 0, api.ErrShort}, {[]byte{255}, 0, api.ErrShort},
		{numbered(0, nil), 5, api.ErrShort}, {numbered(0, nil), 6, api.ErrShort},
		// A number that may not be, with too little behind it, or another sum.
		{[]byte{0, 0}, 0, api.ErrForm}, {[]byte{0, 0, 0, 0, 0}, 0, api.ErrForm}, {wrongSum(numbered(0, nil)), 0, api.ErrForm}, {wrongSum(numbered(0, []byte("abc"))), 0, api.ErrForm},
		{[]byte{1, 16}, 0, api.ErrLong}, {[]byte{255, 255, 1}, 0, api.ErrLong}, {wrongSum(numbered(4097, make([]byte, 4097))), 0, api.ErrLong},
		// Too little, of another sum.
		{wrongSum(boxes([]byte("abc")))[:8], 0, api.ErrShort}, {[]byte{1, 0, 0, 0, 0, 0}, 0, api.ErrShort}, {append([]byte{0, 16}, make([]byte, 4099)...), 0, api.ErrShort},
		{append([]byte{0, 16}, make([]byte, 4100)...), 0, api.ErrSum}, {wrongSum(boxes([]byte("abc"))), 0, api.ErrSum},
	} {
		wantNone(t, c.b, c.at, c.want)
		wantPlain(t, c.b, c.at)
		if c.at == 0 {
			wantValid(t, c.b, nil, 0)
			head := boxes([]byte("hello"))
			wantNone(t, slices.Concat(head, c.b), len(head), c.want)
			wantValid(t, slices.Concat(head, c.b), [][]byte{[]byte("hello")}, len(head))
		}
	}
}

func TestEachByteChanged(t *testing.T) {
	for _, body := range [][]byte{[]byte("a"), []byte("hello"), {0}, make([]byte, 7), some(20, 15)} {
		for _, tail := range [][]byte{nil, []byte("zz"), plainBox([]byte("q")), make([]byte, 5000)} {
			b := slices.Concat(plainBox(body), tail)
			for i := range len(body) + beside {
				for x := 1; x < 256; x++ {
					b[i] ^= byte(x)
					if got, _, err := box.Next(b, 0); err == api.OK {
						t.Fatalf("Next(%x) = %x", short(b), got)
					}
					if i >= 2 {
						wantNone(t, b, 0, api.ErrSum)
					}
					wantPlain(t, b, 0)
					b[i] ^= byte(x)
				}
			}
			wantNext(t, b, 0, body, len(body)+beside)
		}
	}
}

func TestNextIsNew(t *testing.T) {
	body := some(50, 16)
	room := slices.Concat([]byte("xyz"), plainBox(body), some(30, 17))
	was := bytes.Clone(room)
	b := room[:3+len(body)+beside]
	got, _, _ := box.Next(b, 3)
	again, _, _ := box.Next(b, 3)
	if !bytes.Equal(room, was) {
		t.Fatal("what was handed in is changed")
	}
	clear(again[:cap(again)])
	if !bytes.Equal(got, body) || !bytes.Equal(room, was) {
		t.Fatalf("two answers lie in one place, or in what was handed in: %x", got)
	}
	clear(room)
	if !bytes.Equal(got, body) {
		t.Errorf("what was answered is changed: %x; want %x", got, body)
	}
}

func TestErrorsChangeNothing(t *testing.T) {
	for _, c := range []struct {
		b  []byte
		at int
	}{
		{boxes([]byte("a")), -1}, {boxes([]byte("a")), 8}, {boxes([]byte("abc"))[:8], 0}, {[]byte{0, 0, 1, 2, 3, 4, 5}, 0}, {[]byte{1, 16, 1, 2, 3, 4, 5}, 0}, {[]byte{1, 0, 1, 2, 3, 4, 5}, 0}, {[]byte{1}, 0},
	} {
		all := c.b[:cap(c.b)]
		was := bytes.Clone(all)
		_, _, err := box.Next(c.b, c.at)
		box.Valid(c.b)
		if err == api.OK || !bytes.Equal(all, was) {
			t.Errorf("%x at %d: %d, %x", was, c.at, err, all)
		}
	}
}

// P12.2: Valid

func TestValidOfNothing(t *testing.T) {
	for _, b := range [][]byte{nil, {}, make([]byte, 0, 64), plainBox([]byte("a"))[:0]} {
		wantValid(t, b, nil, 0)
	}
}

func TestValidBoxes(t *testing.T) {
	for _, body := range bodies() {
		b := plainBox(body)
		wantValid(t, b, [][]byte{body}, len(b))
		wantValid(t, slices.Concat(b, b, b), [][]byte{body, body, body}, 3*len(b))
	}
	l := bodies()
	for n := range l {
		wantValid(t, boxes(l[:n]...), l[:n], len(boxes(l[:n]...)))
	}
}

func TestValidWithBytesLeft(t *testing.T) {
	l := [][]byte{[]byte("hello"), some(300, 18), []byte("a")}
	for n := range l {
		whole := boxes(l[:n]...)
		for _, left := range [][]byte{{0}, {1}, {0, 0}, {9, 9}, {1, 0}, {1, 16}, {255, 255}, []byte("abc"), make([]byte, 100), some(5000, 19), plainBox([]byte("hello"))[:10], plainBox([]byte("hello"))[1:]} {
			wantValid(t, slices.Concat(whole, left), l[:n], len(whole))
		}
	}
}

// TestValidWithAWrongOne lays a wrong box first, in the midst, and last: what is behind it is not told.
func TestValidWithAWrongOne(t *testing.T) {
	l := [][]byte{[]byte("hello"), []byte("a"), some(300, 20), {0}, some(api.MaxBody, 21)}
	wrongs := [][]byte{numbered(0, nil), numbered(api.MaxBody+1, make([]byte, api.MaxBody+1)), {0, 0}, {1, 16}, {1, 0, 'a', 0, 0, 0, 0}}
	for i := range 7 {
		b := plainBox([]byte("a"))
		b[i] ^= 8
		wrongs = append(wrongs, b)
	}
	for place := range len(l) + 1 {
		ahead, behind := boxes(l[:place]...), boxes(l[place:]...)
		for _, wrong := range wrongs {
			b := slices.Concat(ahead, wrong, behind)
			wantValid(t, b, l[:place], len(ahead))
			want, at := plainValid(b)
			wantValid(t, b, want, at)
		}
	}
}

func TestValidGoesAsNext(t *testing.T) {
	r := rand.New(rand.NewPCG(22, 1))
	for range 3000 {
		b := mixed(r)
		want, end := plainValid(b)
		wantValid(t, b, want, end)
		at := 0
		for _, body := range want {
			wantNext(t, b, at, body, at+box.Size(len(body)))
			at += box.Size(len(body))
		}
		if _, behind, err := box.Next(b, end); err == api.OK || behind != 0 {
			t.Fatalf("there is a box behind the last one of %x", b)
		}
		for range 5 {
			wantPlain(t, b, r.IntN(len(b)+5)-2)
		}
	}
}

// mixed are boxes one behind the other, some of which are not right.
func mixed(r *rand.Rand) []byte {
	var b []byte
	for range r.IntN(6) {
		one := plainBox(some(1+r.IntN(1+r.IntN(600)), r.Uint64()))
		switch r.IntN(12) {
		case 0:
			one[r.IntN(len(one))] ^= byte(1 + r.IntN(255))
		case 1:
			one = one[:r.IntN(len(one))]
		case 2:
			one = append(one, byte(r.IntN(3)))
		case 3:
			one = numbered([]int{0, 4097, 5000, 65535}[r.IntN(4)], one)
		}
		b = append(b, one...)
	}
	return b
}

func TestManyBoxes(t *testing.T) {
	// A call that went over all bytes anew for each box would not come to an end here in a test's time.
	const many = 200000
	b := bytes.Repeat(plainBox([]byte("a")), many)
	l, at := box.Valid(b)
	if len(l) != many || at != len(b) {
		t.Errorf("%d boxes up to %d; want %d up to %d", len(l), at, many, len(b))
	}
}

func TestValidIsNew(t *testing.T) {
	want := [][]byte{[]byte("hello"), []byte("a"), some(300, 23), []byte("hello")}
	room := slices.Concat(boxes(want...), some(40, 24))
	was := bytes.Clone(room)
	b := room[:len(room)-40]
	for place := range want {
		got, _ := box.Valid(b)
		again, _ := box.Valid(b)
		for _, body := range again {
			clear(body[:cap(body)])
		}
		clear(again[:cap(again)])
		clear(got[place][:cap(got[place])])
		if !bytes.Equal(room, was) {
			t.Fatal("what was handed in is changed")
		}
		for i, body := range got {
			if i != place && !bytes.Equal(body, want[i]) {
				t.Errorf("the bytes of box %d are changed with those of box %d: %x", i, place, body)
			}
		}
	}
	got, _ := box.Valid(b)
	clear(room)
	if !same(got, want) {
		t.Error("what was answered is changed")
	}
}

// P12.3

// TestBoxesComeBack puts bodies, and cuts the boxes off anywhere.
func TestBoxesComeBack(t *testing.T) {
	var b []byte
	var ends []int
	l := [][]byte{[]byte("hello"), {0}, some(300, 25), []byte("a"), make([]byte, 17), plainBox([]byte("abc")), some(api.MaxBody, 26), {255, 255}}
	for _, body := range l {
		var err api.Errno
		if b, err = box.Put(b, body); err != api.OK {
			t.Fatal(err)
		}
		ends = append(ends, len(b))
	}
	for cut := range len(b) + 1 {
		whole, end := 0, 0
		for whole < len(ends) && ends[whole] <= cut {
			end = ends[whole]
			whole++
		}
		wantValid(t, b[:cut], l[:whole], end)
		if cut < len(b) {
			wantNone(t, b[:cut], end, api.ErrShort)
		}
	}
}

func TestMoreBehindBoxes(t *testing.T) {
	r := rand.New(rand.NewPCG(27, 1))
	for range 300 {
		var b []byte
		var l [][]byte
		for range 1 + r.IntN(20) {
			body := some(1+r.IntN(1+r.IntN(api.MaxBody)), r.Uint64())
			ahead := b
			b, _ = box.Put(b, body)
			l = append(l, body)
			if len(b) != len(ahead)+box.Size(len(body)) || !bytes.Equal(b[:len(ahead)], ahead) {
				t.Fatalf("%d bytes, and a box of %d: %d", len(ahead), len(body), len(b))
			}
		}
		wantValid(t, b, l, len(b))
		cut := r.IntN(len(b) + 1)
		want, at := plainValid(b[:cut])
		wantValid(t, b[:cut], want, at)
	}
}

// TestRowsOfBytesChanged changes up to four bytes behind the number, one behind the other: a sum of 32 bits tells each such change.
func TestRowsOfBytesChanged(t *testing.T) {
	r := rand.New(rand.NewPCG(28, 1))
	for _, body := range [][]byte{[]byte("a"), []byte("hello"), make([]byte, 9), some(90, 29), some(api.MaxBody, 30)} {
		b := plainBox(body)
		// Of a long box not all places are taken: its ends are, and some between.
		step := 1 + len(body)/100
		for n := 1; n <= 4; n++ {
			for at := 2; at+n <= len(b); at += step {
				changeRow(t, r, b, at, n)
			}
			changeRow(t, r, b, len(b)-n, n)
		}
		wantNext(t, b, 0, body, len(b))
	}
}

// changeRow changes n bytes at a place, in some ways of all, and back again.
func changeRow(t *testing.T, r *rand.Rand, b []byte, at, n int) {
	t.Helper()
	was := bytes.Clone(b[at : at+n])
	for way := range 4 {
		for i := range n {
			b[at+i] ^= []byte{255, 1, 128, byte(1 + r.IntN(255))}[way]
		}
		wantNone(t, b, 0, api.ErrSum)
		wantValid(t, b, nil, 0)
		copy(b[at:], was)
	}
}

func FuzzNext(f *testing.F) {
	f.Add([]byte{}, 0)
	f.Add([]byte{1}, 0)
	f.Add([]byte{0, 0}, 0)
	f.Add([]byte{1, 16}, 0)
	f.Add(boxes([]byte("hello"), []byte("a")), 11)
	f.Add(append(boxes([]byte("hello")), 9, 9), -1)
	f.Fuzz(func(t *testing.T, b []byte, at int) {
		was := bytes.Clone(b)
		wantPlain(t, b, at)
		wantPlain(t, b, at%(len(b)+1))
		// The sum is made right, so that whole boxes are met, too.
		wantPlain(t, sealed(b), 0)
		want, end := plainValid(b)
		wantValid(t, b, want, end)
		if !bytes.Equal(b, was) {
			t.Error("what was handed in is changed")
		}
	})
}

func FuzzPut(f *testing.F) {
	f.Add([]byte{}, []byte{})
	f.Add([]byte("xy"), []byte("a"))
	f.Add(boxes([]byte("hello")), make([]byte, api.MaxBody+1))
	f.Fuzz(func(t *testing.T, b, body []byte) {
		switch {
		case len(body) == 0:
			wantPut(t, b, body, nil, api.ErrForm)
		case len(body) > api.MaxBody:
			wantPut(t, b, body, nil, api.ErrLong)
		default:
			wantPut(t, b, body, slices.Concat(b, plainBox(body)), api.OK)
			got, _ := box.Put(b, body)
			wantNext(t, got, len(b), body, len(b)+box.Size(len(body)))
		}
	})
}
