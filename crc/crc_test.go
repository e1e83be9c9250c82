package crc_test

import (
	"bytes"
	"hash/crc32"
	"math"
	"testing"

	"taximeter/crc"
)

// some answers n bytes that look like no rule, others for each seed.
func some(n int, seed uint64) []byte {
	b := make([]byte, n)
	for i := range b {
		seed = seed*6364136223846793005 + 1442695040888963407
		b[i] = byte(seed >> 33)
	}
	return b
}

// many are bytes of all lengths up to 300, and some longer ones: zeros, bytes with all bits set, one behind the other, and others.
func many() [][]byte {
	l := [][]byte{nil, {}, []byte("a"), []byte("123456789"), some(4096, 1), some(65537, 2)}
	for n := range 301 {
		up := make([]byte, n)
		for i := range up {
			up[i] = byte(i)
		}
		l = append(l, make([]byte, n), bytes.Repeat([]byte{0xff}, n), up, some(n, uint64(n)))
	}
	return l
}

// sums are some at the edges of 32 bits.
func sums() []uint32 {
	return []uint32{0, 1, 0x80000000, 0x7fffffff, math.MaxUint32, math.MaxUint32 - 1, 0x82f63b78, 0xe3069283, 0x12345678}
}

// other is the library's sum, which is made in another way.
func other(sum uint32, b []byte) uint32 {
	return crc32.Update(sum, crc32.MakeTable(crc32.Castagnoli), b)
}

// P2.1

func TestSumsThatAreKnown(t *testing.T) {
	up, down := make([]byte, 32), make([]byte, 32)
	for i := range up {
		up[i], down[i] = byte(i), byte(31-i)
	}
	for _, c := range []struct {
		b    []byte
		want uint32
	}{
		{nil, 0},
		{[]byte{}, 0},
		{[]byte{0}, 0x527d5351},
		{[]byte{0xff}, 0xff000000},
		{[]byte{0xff, 0xff, 0xff, 0xff}, 0xffffffff},
		{[]byte("a"), 0xc1d04330},
		{[]byte("abc"), 0x364b3fb7},
		{[]byte("123456789"), 0xe3069283},
		// The four of RFC 3720.
		{make([]byte, 32), 0x8a9136aa},
		{bytes.Repeat([]byte{0xff}, 32), 0x62a8ab43},
		{up, 0x46dd794e},
		{down, 0x113fdb5c},
	} {
		if got := crc.Sum(c.b); got != c.want {
			t.Errorf("Sum(%x) = %08x; want %08x", c.b, got, c.want)
		}
	}
}

func TestSumOfEachByte(t *testing.T) {
	for x := range 256 {
		for y := range 256 {
			b := []byte{byte(x), byte(y)}
			if crc.Sum(b[:1]) != other(0, b[:1]) || crc.Sum(b) != other(0, b) {
				t.Fatalf("%x: %08x, %08x", b, crc.Sum(b[:1]), crc.Sum(b))
			}
		}
	}
}

func TestSumOfMany(t *testing.T) {
	for _, b := range many() {
		if got := crc.Sum(b); got != other(0, b) {
			t.Fatalf("Sum(%x) = %08x; want %08x", b, got, other(0, b))
		}
	}
}

func TestMoreFromAnySum(t *testing.T) {
	for _, sum := range sums() {
		for _, b := range many() {
			if got := crc.More(sum, b); got != other(sum, b) {
				t.Fatalf("More(%08x, %x) = %08x; want %08x", sum, b, got, other(sum, b))
			}
		}
	}
}

func TestMoreOfNothingIsTheSum(t *testing.T) {
	for _, sum := range sums() {
		if crc.More(sum, nil) != sum || crc.More(sum, []byte{}) != sum {
			t.Errorf("%08x: %08x, %08x", sum, crc.More(sum, nil), crc.More(sum, []byte{}))
		}
	}
}

func TestMoreOfTheSumOfNothing(t *testing.T) {
	for _, b := range many() {
		if crc.More(crc.Sum(nil), b) != crc.Sum(b) {
			t.Fatalf("%x: %08x, %08x", b, crc.More(crc.Sum(nil), b), crc.Sum(b))
		}
	}
}

func TestSumsChangeNothing(t *testing.T) {
	room := []byte("abcdefghijkl")
	for range 2 {
		if got := crc.Sum(room[:3]); got != 0x364b3fb7 {
			t.Errorf("Sum is %08x", got)
		}
		if got := crc.More(0xc1d04330, room[1:3]); got != 0x364b3fb7 {
			t.Errorf("More is %08x", got)
		}
	}
	if string(room) != "abcdefghijkl" {
		t.Errorf("what was handed in is changed: %q", room)
	}
}

// P2.2

func TestSeal(t *testing.T) {
	for _, c := range []struct{ b, want string }{
		{"", "\x00\x00\x00\x00"},
		{"\xff\xff\xff\xff", "\xff\xff\xff\xff\xff\xff\xff\xff"},
		{"a", "a\x30\x43\xd0\xc1"},
		{"123456789", "123456789\x83\x92\x06\xe3"},
		{"\x00", "\x00\x51\x53\x7d\x52"},
	} {
		if got := crc.Seal([]byte(c.b)); string(got) != c.want {
			t.Errorf("Seal(%q) = %q; want %q", c.b, got, c.want)
		}
		if got, is := crc.Open([]byte(c.want)); !is || string(got) != c.b {
			t.Errorf("Open(%q) = %q, %t; want %q", c.want, got, is, c.b)
		}
	}
	if got := crc.Seal(nil); string(got) != "\x00\x00\x00\x00" {
		t.Errorf("of nil: %x", got)
	}
}

func TestSealIsTheBytesAndTheSum(t *testing.T) {
	for _, b := range many() {
		s := crc.Sum(b)
		want := append(bytes.Clone(b), byte(s), byte(s>>8), byte(s>>16), byte(s>>24))
		if got := crc.Seal(b); !bytes.Equal(got, want) {
			t.Fatalf("Seal(%x) = %x", b, got)
		}
	}
}

func TestSealOfNothingIsFourZerosAlone(t *testing.T) {
	if got, is := crc.Open(make([]byte, 4)); !is || len(got) != 0 {
		t.Errorf("four zeros: %x, %t", got, is)
	}
	for bit := range 32 {
		b := make([]byte, 4)
		b[bit/8] = 1 << (bit % 8)
		wantNoSeal(t, b)
	}
	for n := range 100 {
		if n != 4 {
			wantNoSeal(t, make([]byte, n))
		}
	}
}

func wantNoSeal(t *testing.T, b []byte) {
	t.Helper()
	if got, is := crc.Open(b); is || len(got) != 0 {
		t.Errorf("Open(%x) = %x, %t", b, got, is)
	}
}

func TestOpenOfFewerThanFour(t *testing.T) {
	wantNoSeal(t, nil)
	wantNoSeal(t, []byte{})
	for n := range 4 {
		wantNoSeal(t, make([]byte, n))
		wantNoSeal(t, bytes.Repeat([]byte{0xff}, n))
		wantNoSeal(t, []byte("abc")[:n])
		// The rest of a seal lies in the room behind the end: it does not count.
		wantNoSeal(t, make([]byte, 16)[:n])
		wantNoSeal(t, crc.Seal([]byte("abc"))[:n])
	}
}

func TestOpenOfNoSeal(t *testing.T) {
	for _, b := range []string{
		"abcd",
		"123456789",
		"a\xc1\xd0\x43\x30", // the highest byte first
		"a\xcf\xbc\x2f\x3e", // the bits of the sum turned
		"a\x30\x43\xd0",
		"\x30\x43\xd0\xc1a", // the sum ahead
		"a\x30\x43\xd0\xc1\x00",
		"\x00a\x30\x43\xd0\xc1",
		"a\x43\xbe\xb7\xe8", // CRC-32 (IEEE)
	} {
		wantNoSeal(t, []byte(b))
	}
}

func TestOpenOfASealCutOffOrGoneOn(t *testing.T) {
	for n := range 40 {
		s := crc.Seal(some(n, 7))
		for end := range s {
			wantNoSeal(t, s[:end])
		}
		wantNoSeal(t, append(bytes.Clone(s), 0))
		wantNoSeal(t, append(bytes.Clone(s), 0xff))
	}
}

func TestOpenIsOfNothingElse(t *testing.T) {
	// Of all last bytes just the one of the sum is right.
	for _, body := range [][]byte{nil, []byte("x"), some(33, 5)} {
		s := crc.Seal(body)
		for x := range 256 {
			for at := len(s) - 4; at < len(s); at++ {
				b := bytes.Clone(s)
				b[at] = byte(x)
				if _, is := crc.Open(b); is != bytes.Equal(b, s) {
					t.Errorf("Open(%x): %t", b, is)
				}
			}
		}
	}
}

func TestSealIsNewMemory(t *testing.T) {
	for _, n := range []int{0, 1, 4} {
		room := []byte("abcdefghijklmnop")
		b := room[:n]
		want := string(crc.Seal([]byte("abcd")[:n]))
		got := crc.Seal(b)
		if string(room) != "abcdefghijklmnop" {
			t.Errorf("%d bytes: what was handed in, or the room behind it, is changed: %q", n, room)
		}
		copy(room, "????????????????")
		if string(got) != want {
			t.Errorf("%d bytes: the seal has b's memory: %q", n, got)
		}
		for i := range got {
			got[i] = '!'
		}
		if string(room) != "????????????????" {
			t.Errorf("%d bytes: b has the seal's memory: %q", n, room)
		}
	}
}

func TestOpenIsNewMemory(t *testing.T) {
	for _, body := range []string{"", "x", "abcdefgh"} {
		room := append(crc.Seal([]byte(body)), "behind"...)
		kept := string(room)
		b := room[:len(body)+4]
		got, is := crc.Open(b)
		if string(room) != kept {
			t.Errorf("what was handed in, or the room behind it, is changed: %q", room)
		}
		for i := range room {
			room[i] = '?'
		}
		if !is || string(got) != body {
			t.Errorf("%q has b's memory, or does not open: %q, %t", body, got, is)
		}
		for i := range got {
			got[i] = '!'
		}
		got = append(got, "!!!!!!!!"...)
		for i := range room {
			if room[i] != '?' {
				t.Errorf("b has the memory of %q: %q", got, room)
			}
		}
	}
}

func TestOpenKeepsNothing(t *testing.T) {
	s := crc.Seal([]byte("abc"))
	first, _ := crc.Open(s)
	second, _ := crc.Open(s)
	first[0] = '!'
	if string(second) != "abc" {
		t.Errorf("two answers share their memory: %q", second)
	}
	s[0] = '!'
	wantNoSeal(t, s)
	s[0] = 'a'
	if got, is := crc.Open(s); !is || string(got) != "abc" {
		t.Errorf("%q, %t", got, is)
	}
}

// P2.3

func TestSumGoesOnFromPartToPart(t *testing.T) {
	for _, b := range [][]byte{nil, []byte("123456789"), make([]byte, 40), bytes.Repeat([]byte{0xff}, 40), some(100, 3)} {
		want := crc.Sum(b)
		for i := range len(b) + 1 {
			for j := i; j <= len(b); j++ {
				if got := crc.More(crc.More(crc.Sum(b[:i]), b[i:j]), b[j:]); got != want {
					t.Fatalf("%x, cut at %d and %d: %08x; want %08x", b, i, j, got, want)
				}
			}
		}
	}
}

func TestSumGoesOnByteByByte(t *testing.T) {
	for _, b := range many() {
		sum := crc.Sum(nil)
		for i := range b {
			sum = crc.More(sum, b[i:i+1])
		}
		if sum != crc.Sum(b) {
			t.Fatalf("%x: %08x; want %08x", b, sum, crc.Sum(b))
		}
	}
}

func TestWhatIsSealedOpens(t *testing.T) {
	for _, b := range many() {
		if got, is := crc.Open(crc.Seal(b)); !is || !bytes.Equal(got, b) {
			t.Fatalf("%x comes back as %x, %t", b, got, is)
		}
	}
}

func TestWhatIsSealedTwiceOpensTwice(t *testing.T) {
	for _, b := range [][]byte{nil, []byte("x"), some(50, 9)} {
		once, is := crc.Open(crc.Seal(crc.Seal(b)))
		if !is || !bytes.Equal(once, crc.Seal(b)) {
			t.Errorf("%x: %x, %t", b, once, is)
		}
		if got, is := crc.Open(once); !is || !bytes.Equal(got, b) {
			t.Errorf("%x: %x, %t", b, got, is)
		}
	}
}

// changes are what up to four bytes, one behind the other, may be changed by: each single byte, each two of some, and many of three and of four.
func changes() [][]byte {
	var l [][]byte
	for x := 1; x < 256; x++ {
		l = append(l, []byte{byte(x)})
	}
	// The first and the last of a change are not 0: otherwise it would be a shorter one.
	ends := []byte{1, 2, 0x10, 0x7f, 0x80, 0x82, 0xa5, 0xff}
	for _, first := range ends {
		for _, last := range ends {
			l = append(l, []byte{first, last})
			for _, x := range []byte{0, 1, 0x3b, 0x80, 0xff} {
				l = append(l, []byte{first, x, last}, []byte{first, x, ^x, last}, []byte{first, x, x, last})
			}
		}
	}
	for i := range 300 {
		for n := 2; n <= 4; n++ {
			l = append(l, some(n, uint64(1000*n+i)))
		}
	}
	// What the register itself is turned by, both ways round.
	return append(l, []byte{0x78, 0x3b, 0xf6, 0x82}, []byte{0x82, 0xf6, 0x3b, 0x78}, []byte{0x1e, 0xdc, 0x6f, 0x41}, []byte{0x41, 0x6f, 0xdc, 0x1e})
}

// At every place, the seal's own four bytes and those across both among them.
func TestUpToFourChangedBytesDoNotOpen(t *testing.T) {
	for _, body := range [][]byte{nil, {0}, []byte("x"), []byte("123456789"), make([]byte, 12), bytes.Repeat([]byte{0xff}, 12), some(40, 11)} {
		s := crc.Seal(body)
		for _, change := range changes() {
			for at := range len(s) - len(change) + 1 {
				b := bytes.Clone(s)
				for i, x := range change {
					b[at+i] ^= x
				}
				if bytes.Equal(b, s) {
					continue
				}
				if got, is := crc.Open(b); is || len(got) != 0 {
					t.Fatalf("%x, changed to %x, opens as %x", s, b, got)
				}
			}
		}
	}
}

// As TestUpToFourChangedBytesDoNotOpen, in many bytes.
func TestChangedBytesOfALongSealDoNotOpen(t *testing.T) {
	s := crc.Seal(some(2000, 13))
	for at := range len(s) - 3 {
		for n := 1; n <= 4; n++ {
			b := bytes.Clone(s)
			for i := range n {
				b[at+i] ^= byte(1 + (at+i)%255)
			}
			if _, is := crc.Open(b); is {
				t.Fatalf("%d bytes changed at %d: it opens", n, at)
			}
		}
	}
}

func FuzzSeal(f *testing.F) {
	f.Add([]byte(nil), uint32(0), 0, uint32(1))
	f.Add([]byte("123456789"), uint32(0xe3069283), 4, uint32(0x82f63b78))
	f.Add([]byte{0, 0, 0, 0}, uint32(math.MaxUint32), -1, uint32(0))
	f.Fuzz(func(t *testing.T, b []byte, sum uint32, at int, change uint32) {
		if got := crc.More(sum, b); got != other(sum, b) {
			t.Errorf("More(%08x, %x) = %08x", sum, b, got)
		}
		if got, is := crc.Open(b); is && !bytes.Equal(crc.Seal(got), b) {
			t.Errorf("%x opens as %x, of which it is no seal", b, got)
		}
		s := crc.Seal(b)
		if got, is := crc.Open(s); !is || !bytes.Equal(got, b) {
			t.Errorf("%x comes back as %x, %t", b, got, is)
		}
		if at < 0 || at > len(b) || change == 0 {
			return
		}
		for i := range 4 {
			s[at+i] ^= byte(change >> (8 * i))
		}
		if _, is := crc.Open(s); is {
			t.Errorf("%x opens, changed at %d by %08x", s, at, change)
		}
	})
}
