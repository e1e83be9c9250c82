package octet_test

import (
	"bytes"
	"math"
	"slices"
	"testing"

	"taximeter/api"
	"taximeter/octet"
)

var widths = []int{1, 2, 4, 8}

// noWidths holds some whose eightfold goes round to a small number, or to 0.
var noWidths = []int{0, -1, -2, -8, 3, 5, 6, 7, 9, 16, 64, 256, 1 << 61, 1<<61 + 1, math.MaxInt, math.MinInt}

// edges are numbers at the edges of the widths, and some between them.
func edges() []uint64 {
	l := []uint64{0, 1, 2, 127, 128, 258, 0x0102, 0x01020304, 0x0102030405060708, math.MaxUint64}
	for bits := 1; bits < 64; bits++ {
		l = append(l, 1<<bits-1, 1<<bits, 1<<bits+1)
	}
	n := uint64(1)
	for range 200 {
		n = n*6364136223846793005 + 1442695040888963407
		l = append(l, n, n>>16, n>>40)
	}
	return l
}

// top is the greatest number of a width.
func top(width int) uint64 {
	switch width {
	case 1:
		return 0xff
	case 2:
		return 0xffff
	case 4:
		return 0xffffffff
	}
	return math.MaxUint64
}

func wantLeft(t *testing.T, c *octet.Cursor, left int, err api.Errno) {
	t.Helper()
	if c.Left() != left || c.Err() != err {
		t.Errorf("left %d, err %d; want %d, %d", c.Left(), c.Err(), left, err)
	}
}

// P1.1

func TestFitsAtTheEdges(t *testing.T) {
	for _, w := range widths {
		for _, n := range edges() {
			if got := octet.Fits(w, n); got != (n <= top(w)) {
				t.Errorf("Fits(%d, %x) = %t", w, n, got)
			}
		}
	}
}

func TestFitsOfNoWidth(t *testing.T) {
	for _, w := range noWidths {
		for _, n := range []uint64{0, 1, math.MaxUint64} {
			if octet.Fits(w, n) {
				t.Errorf("%d fits the width %d", n, w)
			}
		}
	}
}

func TestPut(t *testing.T) {
	for _, c := range []struct {
		b     string
		width int
		n     uint64
		want  string
	}{
		{"", 1, 0, "\x00"},
		{"", 1, 7, "\x07"},
		{"", 2, 258, "\x02\x01"},
		{"", 4, 0x01020304, "\x04\x03\x02\x01"},
		{"", 8, 0x0102030405060708, "\x08\x07\x06\x05\x04\x03\x02\x01"},
		{"", 8, 1, "\x01\x00\x00\x00\x00\x00\x00\x00"},
		{"", 8, math.MaxUint64, "\xff\xff\xff\xff\xff\xff\xff\xff"},
		{"ab", 2, 0xff00, "ab\x00\xff"},
		// What does not fit.
		{"x", 1, 0x0102030405060708, "x\x08"},
		{"x", 2, 0x0102030405060708, "x\x08\x07"},
		{"x", 4, 0x0102030405060708, "x\x08\x07\x06\x05"},
		{"", 1, 256, "\x00"},
	} {
		if got := octet.Put([]byte(c.b), c.width, c.n); string(got) != c.want {
			t.Errorf("Put(%q, %d, %x) = %x", c.b, c.width, c.n, got)
		}
	}
	if got := octet.Put(nil, 2, 258); string(got) != "\x02\x01" {
		t.Errorf("behind nil: %x", got)
	}
}

func TestPutOfNoWidth(t *testing.T) {
	for _, w := range noWidths {
		if got := octet.Put([]byte("ab"), w, 0x0101010101010101); string(got) != "ab" {
			t.Errorf("width %d: %x", w, got)
		}
		if got := octet.Put(nil, w, 1); len(got) != 0 {
			t.Errorf("width %d behind nil: %x", w, got)
		}
	}
}

func TestPutIsNewMemory(t *testing.T) {
	for _, w := range append([]int{0, 3}, widths...) {
		room := []byte("abcdefghijklmnop")
		b := room[:4]
		got := octet.Put(b, w, 0)
		if string(room) != "abcdefghijklmnop" {
			t.Errorf("width %d: the room behind b is changed: %q", w, room)
		}
		for i := range got {
			got[i] = '!'
		}
		if string(b) != "abcd" {
			t.Errorf("width %d: the answer is b's memory", w)
		}
		b[0] = '?'
		if got[0] != '!' {
			t.Errorf("width %d: b is the answer's memory", w)
		}
	}
}

// P1.2

func TestNumber(t *testing.T) {
	c := octet.NewCursor([]byte{1, 2, 3, 4, 5, 6, 7, 8, 9, 10, 11, 12, 13, 14, 255})
	for _, x := range []struct {
		width int
		want  uint64
	}{{1, 0x01}, {2, 0x0302}, {4, 0x07060504}, {8, 0xff0e0d0c0b0a0908}} {
		if got := c.Number(x.width); got != x.want {
			t.Errorf("width %d: %x", x.width, got)
		}
	}
	wantLeft(t, c, 0, api.OK)
	if c.Done() != api.OK {
		t.Error("all is read, and it is not done")
	}
}

func TestNumberOfNoWidth(t *testing.T) {
	for _, w := range noWidths {
		c := octet.NewCursor([]byte{1, 2, 3, 4, 5, 6, 7, 8, 9, 10, 11, 12})
		if got := c.Number(w); got != 0 {
			t.Errorf("width %d: %x", w, got)
		}
		wantLeft(t, c, 12, api.OK)
		if c.Number(1) != 1 {
			t.Errorf("width %d: something is read", w)
		}
		c = octet.NewCursor(nil)
		if c.Number(w) != 0 || c.Err() != api.OK {
			t.Errorf("width %d of nothing is an error", w)
		}
	}
}

func TestNumberTooShort(t *testing.T) {
	for _, w := range widths {
		for n := range w {
			c := octet.NewCursor(bytes.Repeat([]byte{255}, n))
			if got := c.Number(w); got != 0 {
				t.Errorf("width %d of %d bytes: %x", w, n, got)
			}
			wantLeft(t, c, n, api.ErrShort)
			if c.Done() != api.ErrShort {
				t.Errorf("width %d of %d bytes: done is %d", w, n, c.Done())
			}
		}
	}
}

func TestBytes(t *testing.T) {
	c := octet.NewCursor([]byte("abcdef"))
	if got := c.Bytes(2); string(got) != "ab" {
		t.Errorf("two: %q", got)
	}
	for _, n := range []int{0, -1, -6, math.MinInt} {
		if got := c.Bytes(n); len(got) != 0 {
			t.Errorf("%d: %q", n, got)
		}
		wantLeft(t, c, 4, api.OK)
	}
	if got := c.Bytes(4); string(got) != "cdef" {
		t.Errorf("four: %q", got)
	}
	if c.Bytes(0); c.Done() != api.OK {
		t.Error("no bytes of nothing are an error")
	}
	if got := c.Bytes(1); len(got) != 0 || c.Err() != api.ErrShort {
		t.Errorf("one of nothing: %q, %d", got, c.Err())
	}
}

func TestBytesTooShort(t *testing.T) {
	for _, n := range []int{4, 5, math.MaxInt} {
		c := octet.NewCursor([]byte("abcd"))
		c.Number(1)
		if got := c.Bytes(n); len(got) != 0 {
			t.Errorf("%d of three: %q", n, got)
		}
		wantLeft(t, c, 3, api.ErrShort)
	}
}

func TestText(t *testing.T) {
	for _, x := range []struct {
		b           string
		width, most int
		want        string
		left        int
		err         api.Errno
	}{
		{"\x02abc", 1, 9, "ab", 1, api.OK},
		{"\x02\x00abc", 2, 2, "ab", 1, api.OK},
		{"\x03\x00\x00\x00abc", 4, 3, "abc", 0, api.OK},
		{"\x01\x00\x00\x00\x00\x00\x00\x00abc", 8, math.MaxInt, "a", 2, api.OK},
		{"\x00abc", 1, 0, "", 3, api.OK},
		{"\x02\xff\x00", 1, 2, "\xff\x00", 0, api.OK},
		// Above the most.
		{"\x03abc", 1, 2, "", 3, api.ErrForm},
		{"\x01abc", 1, 0, "", 3, api.ErrForm},
		{"\x00abc", 1, -1, "", 3, api.ErrForm},
		{"\x02abc", 1, math.MinInt, "", 3, api.ErrForm},
		{"\x00\x01abc", 2, 255, "", 3, api.ErrForm},
		{"\xff\xff\xff\xff\xff\xff\xff\xffabc", 8, math.MaxInt, "", 3, api.ErrForm},
		{"\xff\xff\xff\xff\xff\xff\xff\xffabc", 8, -1, "", 3, api.ErrForm},
		{"\x09a", 1, 8, "", 1, api.ErrForm},
		// Too short: in the number, or behind it.
		{"", 1, 9, "", 0, api.ErrShort},
		{"", 1, -1, "", 0, api.ErrShort},
		{"\x02", 2, 9, "", 1, api.ErrShort},
		{"\x04abc", 1, 9, "", 3, api.ErrShort},
		{"\xff\xff\xff\xff\xff\xff\xff\x7fabc", 8, math.MaxInt, "", 3, api.ErrShort},
		// No such width: a number that is 0.
		{"\x02abc", 3, 9, "", 4, api.OK},
		{"\x02abc", 0, 9, "", 4, api.OK},
		{"\x02abc", -1, 0, "", 4, api.OK},
	} {
		c := octet.NewCursor([]byte(x.b))
		if got := c.Text(x.width, x.most); got != x.want || c.Left() != x.left || c.Err() != x.err {
			t.Errorf("%q, width %d, most %d: %q, left %d, err %d", x.b, x.width, x.most, got, c.Left(), c.Err())
		}
	}
}

func TestLeftAndDone(t *testing.T) {
	c := octet.NewCursor([]byte{1, 2, 3})
	for left := 3; left > 0; left-- {
		wantLeft(t, c, left, api.OK)
		if c.Done() != api.ErrForm {
			t.Errorf("%d left: done is %d", left, c.Done())
		}
		// Done is asked, and nothing is kept of it.
		if got := c.Number(1); got != uint64(4-left) {
			t.Errorf("behind done: %d", got)
		}
	}
	wantLeft(t, c, 0, api.OK)
	if c.Done() != api.OK {
		t.Errorf("at the end: done is %d", c.Done())
	}
	for _, b := range [][]byte{nil, {}} {
		c = octet.NewCursor(b)
		wantLeft(t, c, 0, api.OK)
		if c.Done() != api.OK {
			t.Errorf("of nothing: done is %d", c.Done())
		}
	}
}

// wantNothing reads in all ways behind an error, where each would have something to read, or another error.
func wantNothing(t *testing.T, c *octet.Cursor, err api.Errno) {
	t.Helper()
	left := c.Left()
	for _, w := range append([]int{3}, widths...) {
		if c.Number(w) != 0 || c.Text(w, 9) != "" || c.Text(w, -1) != "" {
			t.Errorf("width %d: something is read", w)
		}
	}
	for _, n := range []int{-1, 0, 1, 2, 100} {
		if len(c.Bytes(n)) != 0 {
			t.Errorf("%d bytes: something is read", n)
		}
	}
	wantLeft(t, c, left, err)
	if c.Done() != err {
		t.Errorf("done is %d, want %d", c.Done(), err)
	}
}

func TestBehindTheFirstError(t *testing.T) {
	b := []byte{1, 'a', 1, 0, 1, 0, 0, 0}
	c := octet.NewCursor(b)
	c.Bytes(9)
	wantNothing(t, c, api.ErrShort)

	c = octet.NewCursor(b[:7])
	c.Number(8)
	wantNothing(t, c, api.ErrShort)

	c = octet.NewCursor(b)
	c.Text(1, 0)
	wantNothing(t, c, api.ErrForm)

	c = octet.NewCursor(b[:1])
	c.Text(1, 1)
	wantNothing(t, c, api.ErrShort)
}

func TestNilCursor(t *testing.T) {
	var c *octet.Cursor
	wantNothing(t, c, api.ErrShort)
	wantLeft(t, c, 0, api.ErrShort)
}

func TestCursorsMemoryIsItsOwn(t *testing.T) {
	b := []byte("abcdefgh")
	c := octet.NewCursor(b[:6])
	copy(b, "????????")
	got := c.Bytes(2)
	if string(got) != "ab" {
		t.Errorf("what was handed in is kept: %q", got)
	}
	got[0] = '!'
	if long := append(got, "!!!!"...); len(long) != 6 || string(b) != "????????" {
		t.Errorf("the answer is what was handed in: %q", b)
	}
	if rest := c.Bytes(4); string(rest) != "cdef" {
		t.Errorf("the answer is the cursor's memory: %q", rest)
	}
}

func TestCursorChangesNothing(t *testing.T) {
	b := []byte{2, 'a', 'b', 1, 0, 9, 8, 7}
	was := slices.Clone(b)
	c := octet.NewCursor(b)
	c.Text(1, 9)
	c.Number(2)
	c.Bytes(3)
	if c.Done() != api.OK || !slices.Equal(b, was) {
		t.Errorf("%v became %v", was, b)
	}
}

// P1.3

func TestNumbersComeBack(t *testing.T) {
	for _, w := range widths {
		for _, n := range edges() {
			c := octet.NewCursor(octet.Put(nil, w, n))
			if got := c.Number(w); got != n&top(w) || (got == n) != octet.Fits(w, n) || c.Done() != api.OK {
				t.Errorf("width %d: %x comes back as %x", w, n, got)
			}
		}
	}
}

func TestManyNumbersComeBack(t *testing.T) {
	var b []byte
	for i, n := range edges() {
		b = octet.Put(b, widths[i%4], n)
	}
	c := octet.NewCursor(b)
	for i, n := range edges() {
		if got := c.Number(widths[i%4]); got != n&top(widths[i%4]) {
			t.Fatalf("number %d: %x comes back as %x", i, n, got)
		}
	}
	if c.Done() != api.OK {
		t.Errorf("done is %d", c.Done())
	}
}

func TestTextsComeBack(t *testing.T) {
	for _, w := range widths {
		for n := range 256 {
			s := bytes.Repeat([]byte{byte(n)}, n)
			c := octet.NewCursor(append(octet.Put(nil, w, uint64(n)), s...))
			if got := c.Text(w, n); got != string(s) || c.Done() != api.OK {
				t.Errorf("width %d: %d bytes come back as %d, done is %d", w, n, len(got), c.Done())
			}
		}
	}
}

func FuzzCursor(f *testing.F) {
	f.Add([]byte{2, 'a', 'b', 'c'}, 1, 9)
	f.Add([]byte{255, 255, 255, 255, 255, 255, 255, 255}, 8, -1)
	f.Fuzz(func(t *testing.T, b []byte, width, most int) {
		c := octet.NewCursor(b)
		for range 3 {
			left := c.Left()
			c.Number(width)
			c.Bytes(most)
			s := c.Text(width, most)
			if c.Left() > left || c.Left() < 0 || len(s) > max(most, 0) {
				t.Errorf("left %d, then %d; %q", left, c.Left(), s)
			}
		}
	})
}
