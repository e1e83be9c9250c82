package hmac_test

import (
	"bytes"
	library "crypto/hmac"
	"crypto/sha256"
	"encoding/hex"
	"math/rand/v2"
	"testing"
	"time"

	"taximeter/hmac"
)

// some answers n bytes that look like no rule, others for each seed.
func some(n int, seed byte) []byte {
	b := make([]byte, n)
	rand.NewChaCha8([32]byte{seed}).Read(b)
	return b
}

// up answers n bytes from first on, each one more than the one ahead.
func up(first byte, n int) []byte {
	b := make([]byte, n)
	for i := range b {
		b[i] = first + byte(i)
	}
	return b
}

// bodies are bytes at the edges of a block, and of its place for the count, and some longer ones.
func bodies() [][]byte {
	l := [][]byte{nil, {}, []byte("Hi There"), some(4096, 1), some(65536+55, 2)}
	for _, n := range []int{1, 2, 31, 32, 33, 54, 55, 56, 57, 63, 64, 65, 119, 120, 127, 128, 129, 200} {
		l = append(l, make([]byte, n), some(n, byte(n)))
	}
	return l
}

// keys are of all lengths up to 140, and some longer ones: zeros, bytes with all bits set, one more and one more, and others.
func keys() [][]byte {
	l := [][]byte{nil, {}, []byte("key"), some(1000, 3), some(4096, 4)}
	for n := range 141 {
		l = append(l, make([]byte, n), bytes.Repeat([]byte{0xff}, n), up(0, n), some(n, byte(n)))
	}
	// A pad of these is all zeros.
	return append(l, bytes.Repeat([]byte{0x36}, 64), bytes.Repeat([]byte{0x5c}, 64))
}

// libraryTag is the library's tag.
func libraryTag(key, b []byte) [32]byte {
	h := library.New(sha256.New, key)
	h.Write(b)
	return [32]byte(h.Sum(nil))
}

// P4.1: Tag

func TestTagsThatAreKnown(t *testing.T) {
	long := bytes.Repeat([]byte{0xaa}, 131)
	for _, c := range []struct {
		key  []byte
		b    string
		want string
	}{
		{[]byte("key"), "The quick brown fox jumps over the lazy dog", "f7bc83f430538424b13298e6aa6fb143ef4d59a14946175997479dbc2d1a3cd8"},
		{nil, "", "b613679a0814d9ec772f95d778c35fc5ff1697c493715653c6c712144292c5ad"},
		{[]byte{}, "", "b613679a0814d9ec772f95d778c35fc5ff1697c493715653c6c712144292c5ad"},
		{[]byte("key"), "", "5d5d139563c95b5967b9bd9a8c9b233a9dedb45072794cd232dc1b74832607d0"},
		{nil, "The quick brown fox jumps over the lazy dog", "fb011e6154a19b9a4c767373c305275a5a69e8b68b0b4c9200c383dced19a416"},
		// RFC 4231.
		{bytes.Repeat([]byte{0x0b}, 20), "Hi There", "b0344c61d8db38535ca8afceaf0bf12b881dc200c9833da726e9376c2e32cff7"},
		{[]byte("Jefe"), "what do ya want for nothing?", "5bdcc146bf60754e6a042426089575c75a003f089d2739839dec58b964ec3843"},
		{bytes.Repeat([]byte{0xaa}, 20), string(bytes.Repeat([]byte{0xdd}, 50)), "773ea91e36800e46854db8ebd09181a72959098b3ef8c122d9635514ced565fe"},
		{up(1, 25), string(bytes.Repeat([]byte{0xcd}, 50)), "82558a389a443c0ea4cc819899f2083a85f0faa3e578f8077a2e3ff46729665b"},
		{bytes.Repeat([]byte{0x0c}, 20), "Test With Truncation", "a3b6167473100ee06e0c796c2955552bfa6f7c0a6a8aef8b93f860aab0cd20c5"},
		{long, "Test Using Larger Than Block-Size Key - Hash Key First", "60e431591ee0b67f0d8a26aacbf5b77f8e0bc6213728c5140546040f0ee37f54"},
		{long, "This is a test using a larger than block-size key and a larger than block-size data. The key needs to be hashed before being used by the HMAC algorithm.", "9b09ffa71b942fcb27635fbcd5b0e944bfdc63644f0713938a7f51535c3a35e2"},
		// The NIST's examples: a key of a block, a shorter and a longer one.
		{up(0, 64), "Sample message for keylen=blocklen", "8bb9a1db9806f20df7f77b82138c7914d174d59e13dc4d0169c9057b133e1d62"},
		{up(0, 32), "Sample message for keylen<blocklen", "a28cf43130ee696a98f14a37678b56bcfcbdd9e5cf69717fecf5480f0ebdf790"},
		{up(0, 100), "Sample message for keylen=blocklen", "bdccb6c72ddeadb500ae768386cb38cc41c63dbb0878ddb9c7a38a431b78378d"},
	} {
		if tag := hmac.Tag(c.key, []byte(c.b)); hex.EncodeToString(tag[:]) != c.want {
			t.Errorf("key %x, %q: %x; want %s", c.key, c.b, tag, c.want)
		}
	}
	if hmac.Tag(nil, nil) != hmac.Tag([]byte{}, []byte{}) {
		t.Error("nil lists have another tag than empty ones")
	}
}

func TestTagOfEachKey(t *testing.T) {
	for _, key := range keys() {
		for _, b := range [][]byte{nil, []byte("Hi There"), some(64, 5)} {
			if got, want := hmac.Tag(key, b), libraryTag(key, b); got != want {
				t.Fatalf("key %x, %x: %x; want %x", key, b, got, want)
			}
		}
	}
}

func TestTagOfManyBytes(t *testing.T) {
	for _, key := range [][]byte{nil, []byte("key"), up(0, 63), up(0, 64), up(0, 65), up(0, 128)} {
		for _, b := range bodies() {
			if got, want := hmac.Tag(key, b), libraryTag(key, b); got != want {
				t.Fatalf("key %x, %d bytes: %x; want %x", key, len(b), got, want)
			}
		}
	}
}

// plainTag is the chapter's words again.
func plainTag(key, b []byte) [32]byte {
	if len(key) > 64 {
		d := sha256.Sum256(key)
		key = d[:]
	}
	var in, out []byte
	for i := range 64 {
		var x byte
		if i < len(key) {
			x = key[i]
		}
		in, out = append(in, x^0x36), append(out, x^0x5c)
	}
	inner := sha256.Sum256(append(in, b...))
	return sha256.Sum256(append(out, inner[:]...))
}

func TestTagIsAsTheWordsTell(t *testing.T) {
	for i, key := range keys() {
		b := some(i%150, byte(i))
		if got, want := hmac.Tag(key, b), plainTag(key, b); got != want {
			t.Fatalf("key %x, %x: %x; want %x", key, b, got, want)
		}
	}
}

// Each bit of the key, and each one of the bytes, makes another tag.
func TestTagsOfOthersAreOthers(t *testing.T) {
	for _, n := range []int{1, 32, 63, 64, 65, 100} {
		key, b := some(n, 6), some(n, 7)
		seen := map[[32]byte]bool{hmac.Tag(key, b): true}
		for bit := range 8 * n {
			key[bit/8] ^= 1 << (bit % 8)
			seen[hmac.Tag(key, b)] = true
			key[bit/8] ^= 1 << (bit % 8)
			b[bit/8] ^= 1 << (bit % 8)
			seen[hmac.Tag(key, b)] = true
			b[bit/8] ^= 1 << (bit % 8)
		}
		if want := 1 + 16*n; len(seen) != want {
			t.Errorf("%d bytes: %d tags of %d", n, len(seen), want)
		}
	}
}

// Where the key ends, and the bytes begin, counts; so does which is which.
func TestTagTellsTheKeyFromTheBytes(t *testing.T) {
	all := []byte("a key and its bytes")
	seen := map[[32]byte]bool{}
	for at := range all {
		seen[hmac.Tag(all[:at], all[at:])] = true
		seen[hmac.Tag(all[at:], all[:at])] = true
	}
	if want := 2 * len(all); len(seen) != want {
		t.Errorf("%d tags of %d", len(seen), want)
	}
}

// P4.1: Same

func TestSame(t *testing.T) {
	for _, c := range []struct {
		a, b []byte
		want bool
	}{
		{nil, nil, true},
		{nil, []byte{}, true},
		{[]byte{}, []byte{}, true},
		{[]byte{0}, []byte{0}, true},
		{[]byte("abc"), []byte("abc"), true},
		{nil, []byte{0}, false},
		{[]byte{}, []byte("a"), false},
		{[]byte{1}, []byte{1, 2}, false},
		{[]byte{1}, []byte{1, 0}, false},
		{[]byte{0}, []byte{0, 0}, false},
		{[]byte{2}, []byte{1, 2}, false},
		{[]byte("abc"), []byte("abd"), false},
		{[]byte("abc"), []byte("bbc"), false},
		{[]byte("abc"), []byte("cba"), false},
		{[]byte("abc"), []byte("ABC"), false},
		{[]byte{0}, []byte{0x80}, false},
		// What differs is undone, if it is summed, or taken xor.
		{[]byte{1, 1}, []byte{0, 0}, false},
		{[]byte{0x55, 0x55, 0xaa}, []byte{0xaa, 0xaa, 0xaa}, false},
		{[]byte{1, 2}, []byte{2, 1}, false},
		{[]byte{0x80, 0x80}, []byte{0, 0}, false},
		{bytes.Repeat([]byte{1}, 256), make([]byte, 256), false},
	} {
		if got := hmac.Same(c.a, c.b); got != c.want {
			t.Errorf("Same(%x, %x) = %t", c.a, c.b, got)
		}
		if got := hmac.Same(c.b, c.a); got != c.want {
			t.Errorf("Same(%x, %x) = %t", c.b, c.a, got)
		}
	}
}

func TestSameOfEachTwoBytes(t *testing.T) {
	for x := range 256 {
		for y := range 256 {
			if got := hmac.Same([]byte{byte(x)}, []byte{byte(y)}); got != (x == y) {
				t.Errorf("Same(%02x, %02x) = %t", x, y, got)
			}
		}
	}
}

func TestSameButForOneByte(t *testing.T) {
	for _, n := range []int{1, 2, 8, 31, 32, 33, 64, 300} {
		a := some(n, 8)
		b := bytes.Clone(a)
		if !hmac.Same(a, b) {
			t.Errorf("%d bytes are not the same as themselves", n)
		}
		for bit := range 8 * n {
			b[bit/8] ^= 1 << (bit % 8)
			if hmac.Same(a, b) || hmac.Same(b, a) {
				t.Errorf("%d bytes: another bit %d makes no difference", n, bit)
			}
			b[bit/8] ^= 1 << (bit % 8)
		}
	}
}

func TestSameOfOtherLengths(t *testing.T) {
	for _, all := range [][]byte{make([]byte, 70), bytes.Repeat([]byte{0xff}, 70), some(70, 9)} {
		for n := range 71 {
			for m := range 71 {
				if got := hmac.Same(all[:n], bytes.Clone(all[:m])); got != (n == m) {
					t.Errorf("%d and %d bytes of the same: %t", n, m, got)
				}
			}
		}
	}
}

// took is how long it takes to hold a against b.
func took(t *testing.T, a, b []byte, want bool) time.Duration {
	t.Helper()
	began := time.Now()
	got := hmac.Same(a, b)
	d := time.Since(began)
	if got != want {
		t.Errorf("of %d bytes: %t", len(a), got)
	}
	return d
}

// All bytes are gone through: what differs early takes as long as what differs nowhere. To stop there would be at least fifty times quicker, so that a tenth leaves room for a machine that is busy; the quickest of several times that take turns leaves some more.
func TestSameGoesThroughAllBytes(t *testing.T) {
	const n = 1 << 22
	a := some(n, 10)
	for _, at := range []int{0, 1, n / 50} {
		other := bytes.Clone(a)
		other[at] ^= 1
		whole, part := time.Hour, time.Hour
		for range 5 {
			whole = min(whole, took(t, a, bytes.Clone(a), true))
			part = min(part, took(t, a, other, false))
		}
		if part < whole/10 {
			t.Errorf("what differs at %d takes %v, what differs nowhere %v", at, part, whole)
		}
	}
}

// P4.1: Check

// wantNoTag asks that tag is not the one of b by key.
func wantNoTag(t *testing.T, key, b, tag []byte) {
	t.Helper()
	if hmac.Check(key, b, tag) {
		t.Errorf("key %x, %x: %x is the tag", key, b, tag)
	}
}

func TestCheckOfTheTag(t *testing.T) {
	for _, key := range keys() {
		for _, b := range [][]byte{nil, []byte("Hi There"), some(100, 11)} {
			tag := libraryTag(key, b)
			if !hmac.Check(key, b, tag[:]) {
				t.Fatalf("key %x, %x: %x is not the tag", key, b, tag)
			}
		}
	}
}

func TestCheckOfOneOtherByte(t *testing.T) {
	key, b := []byte("key"), []byte("Hi There")
	tag := libraryTag(key, b)
	for at := range tag {
		for x := 1; x < 256; x++ {
			other := tag
			other[at] ^= byte(x)
			wantNoTag(t, key, b, other[:])
		}
	}
}

func TestCheckOfATagCutOffOrGoneOn(t *testing.T) {
	for _, key := range [][]byte{nil, []byte("key"), up(0, 64), up(0, 65)} {
		for _, b := range [][]byte{nil, []byte("Hi There")} {
			tag := libraryTag(key, b)
			for n := range tag {
				wantNoTag(t, key, b, tag[:n])
				wantNoTag(t, key, b, tag[len(tag)-n:])
			}
			wantNoTag(t, key, b, nil)
			wantNoTag(t, key, b, []byte{})
			for _, x := range []byte{0, 1, 0xff, tag[0], tag[31]} {
				wantNoTag(t, key, b, append(bytes.Clone(tag[:]), x))
				wantNoTag(t, key, b, append([]byte{x}, tag[:]...))
			}
			wantNoTag(t, key, b, append(tag[:], tag[:]...))
		}
	}
}

// As a tag comes just what is one, not what its parts are.
func TestCheckOfWhatIsNoTag(t *testing.T) {
	key, b := []byte("key"), []byte("Hi There")
	tag, swapped, turned := libraryTag(key, b), libraryTag(b, key), libraryTag(key, b)
	for i := range tag {
		turned[i] = tag[len(tag)-1-i]
	}
	bare, ahead, behind := sha256.Sum256(b), sha256.Sum256(append(bytes.Clone(key), b...)), sha256.Sum256(append(bytes.Clone(b), key...))
	for _, other := range [][32]byte{{}, swapped, turned, bare, ahead, behind, libraryTag(key, nil), libraryTag(nil, b)} {
		wantNoTag(t, key, b, other[:])
	}
	wantNoTag(t, key, b, bytes.Repeat([]byte{0xff}, 32))
	wantNoTag(t, key, b, key)
	wantNoTag(t, key, b, b)
	wantNoTag(t, key, b, []byte(hex.EncodeToString(tag[:])))
}

func TestCheckOfAnotherKeyOrOtherBytes(t *testing.T) {
	for _, n := range []int{1, 20, 64, 65} {
		key, b := some(n, 12), some(n, 13)
		tag := libraryTag(key, b)
		for bit := range 8 * n {
			other := bytes.Clone(key)
			other[bit/8] ^= 1 << (bit % 8)
			wantNoTag(t, other, b, tag[:])
			other = bytes.Clone(b)
			other[bit/8] ^= 1 << (bit % 8)
			wantNoTag(t, key, other, tag[:])
		}
		wantNoTag(t, key[1:], b, tag[:])
		wantNoTag(t, key, b[1:], tag[:])
		wantNoTag(t, key, append(bytes.Clone(b), 0), tag[:])
		wantNoTag(t, b, key, tag[:])
		wantNoTag(t, nil, b, tag[:])
		wantNoTag(t, key, nil, tag[:])
	}
}

// P4.1: memory

// The rooms behind the ends neither count nor are written to: the zeros behind a key, and the bytes behind a pad would go into them.
func TestRoomsBehindTheEnds(t *testing.T) {
	for _, n := range []int{0, 1, 31, 32, 63, 64, 65, 100} {
		keyRoom, room := some(200, 14), some(200, 15)
		keptKey, kept := bytes.Clone(keyRoom), bytes.Clone(room)
		want := libraryTag(keptKey[:n], kept[:n])
		tagRoom := append(want[:], "behind the tag"...)
		keptTag := bytes.Clone(tagRoom)
		if got := hmac.Tag(keyRoom[:n], room[:n]); got != want {
			t.Errorf("%d bytes: %x; want %x", n, got, want)
		}
		if !hmac.Check(keyRoom[:n], room[:n], tagRoom[:32]) || !hmac.Same(room[:n], kept[:n]) {
			t.Errorf("%d bytes: the room behind the end counts", n)
		}
		wantNoTag(t, keyRoom[:n], room[:n], tagRoom[:31])
		if !bytes.Equal(keyRoom, keptKey) || !bytes.Equal(room, kept) || !bytes.Equal(tagRoom, keptTag) {
			t.Errorf("%d bytes: what was handed in, or the room behind it, is changed", n)
		}
	}
}

func TestOneMemoryForAll(t *testing.T) {
	room := some(128, 16)
	kept := bytes.Clone(room)
	for _, n := range []int{0, 20, 64, 65, 128} {
		for at := range n + 1 {
			if got := hmac.Tag(room[:n], room[at:n]); got != libraryTag(kept[:n], kept[at:n]) {
				t.Errorf("key %x, and %d of its bytes: %x", kept[:n], n-at, got)
			}
		}
	}
	hmac.Check(room[:32], room[:32], room[:32])
	if !hmac.Same(room, room) || !bytes.Equal(room, kept) {
		t.Errorf("%x became %x", kept, room)
	}
}

func TestNothingIsKept(t *testing.T) {
	key, b := some(40, 17), some(40, 18)
	tag := hmac.Tag(key, b)
	first := tag
	for _, l := range [][]byte{key, b} {
		l[0] ^= 1
		if hmac.Tag(key, b) == first || hmac.Check(key, b, first[:]) {
			t.Error("the tag is of what was")
		}
		l[0] ^= 1
	}
	for i := range tag {
		tag[i] = '!'
	}
	hmac.Tag(b, key)
	if hmac.Tag(key, b) != first || !hmac.Check(key, b, first[:]) {
		t.Error("the tag of the same is another one")
	}
}

// P4.2

func TestZerosBehindAKeyMakeNoDifference(t *testing.T) {
	for n := range 65 {
		for _, key := range [][]byte{make([]byte, n), bytes.Repeat([]byte{0xff}, n), some(n, 19)} {
			for _, b := range [][]byte{nil, []byte("Hi There")} {
				want := libraryTag(key, b)
				for end := n; end <= 64; end++ {
					long := append(bytes.Clone(key), make([]byte, end-n)...)
					if got := hmac.Tag(long, b); got != want || !hmac.Check(long, b, want[:]) {
						t.Fatalf("key %x, %x: %x; want %x", long, b, got, want)
					}
				}
			}
		}
	}
}

func TestZerosBeyondABlockMakeADifference(t *testing.T) {
	for _, n := range []int{0, 1, 32, 63, 64} {
		key := some(n, 20)
		tag := libraryTag(key, nil)
		seen := map[[32]byte]bool{hmac.Tag(key, nil): true}
		for end := 65; end <= 200; end++ {
			long := append(bytes.Clone(key), make([]byte, end-n)...)
			seen[hmac.Tag(long, nil)] = true
			wantNoTag(t, long, nil, tag[:])
		}
		if len(seen) != 137 {
			t.Errorf("a key of %d bytes, and zeros behind: %d tags of 137", n, len(seen))
		}
	}
}

func TestOtherBytesAroundAKeyMakeADifference(t *testing.T) {
	for _, n := range []int{0, 1, 32, 62, 63} {
		key := append(some(n, 21), 7)
		tag := libraryTag(key, nil)
		wantNoTag(t, append([]byte{0}, key...), nil, tag[:])
		wantNoTag(t, append(bytes.Clone(key), 1), nil, tag[:])
		wantNoTag(t, append(bytes.Clone(key), 0, 1), nil, tag[:])
		wantNoTag(t, append(bytes.Clone(key), '0'), nil, tag[:])
	}
}

func TestALongKeyHasTheTagsOfItsDigest(t *testing.T) {
	for n := 65; n < 400; n++ {
		for _, key := range [][]byte{make([]byte, n), bytes.Repeat([]byte{0xff}, n), some(n, 22)} {
			d := sha256.Sum256(key)
			for _, b := range [][]byte{nil, []byte("Hi There")} {
				want := libraryTag(d[:], b)
				if got := hmac.Tag(key, b); got != want || hmac.Tag(d[:], b) != want || !hmac.Check(key, b, want[:]) {
					t.Fatalf("key %x, %x: %x; want %x", key, b, got, want)
				}
			}
		}
	}
}

// Up to 64 bytes a key is itself, not its digest, and a longer one is not cut off.
func TestAKeyOfABlockIsItself(t *testing.T) {
	for n := range 65 {
		key := some(n, 23)
		d := sha256.Sum256(key)
		tag := libraryTag(d[:], nil)
		wantNoTag(t, key, nil, tag[:])
	}
	for _, n := range []int{65, 66, 128} {
		key := some(n, 24)
		tag := libraryTag(key[:64], nil)
		wantNoTag(t, key, nil, tag[:])
	}
}

func FuzzTag(f *testing.F) {
	f.Add([]byte(nil), []byte(nil), []byte(nil))
	f.Add([]byte("key"), []byte("Hi There"), make([]byte, 32))
	f.Add(up(0, 63), some(55, 1), []byte{1})
	f.Add(up(0, 64), some(56, 2), some(31, 3))
	f.Add(up(0, 65), some(64, 4), some(33, 5))
	f.Fuzz(func(t *testing.T, key, b, other []byte) {
		got := hmac.Tag(key, b)
		if got != libraryTag(key, b) {
			t.Errorf("key %x, %x: %x", key, b, got)
		}
		if !hmac.Check(key, b, got[:]) || hmac.Check(key, b, other) != bytes.Equal(other, got[:]) {
			t.Errorf("key %x, %x: a tag %x, %x", key, b, got, other)
		}
		if hmac.Same(b, other) != bytes.Equal(b, other) || hmac.Same(key, other) != bytes.Equal(key, other) {
			t.Errorf("%x, %x, %x: which are the same?", key, b, other)
		}
	})
}
