package sha_test

import (
	"bytes"
	"crypto/sha256"
	"encoding"
	"encoding/binary"
	"encoding/hex"
	"math"
	"math/big"
	"testing"

	"taximeter/sha"
)

// some answers n bytes that look like no rule, others for each seed.
func some(n int, seed uint64) []byte {
	b := make([]byte, n)
	for i := range b {
		seed = seed*6364136223846793005 + 1442695040888963407
		b[i] = byte(seed >> 33)
	}
	return b
}

// many are bytes of all lengths up to 330, and some longer ones: zeros, bytes with all bits set, one behind the other, and others.
func many() [][]byte {
	l := [][]byte{nil, {}, []byte("abc"), some(4095, 1), some(4096, 2), some(65536+55, 3), some(65536+56, 4)}
	for n := range 331 {
		up := make([]byte, n)
		for i := range up {
			up[i] = byte(i)
		}
		l = append(l, make([]byte, n), bytes.Repeat([]byte{0xff}, n), up, some(n, uint64(n)))
	}
	return l
}

// sizes are lengths at the edges of a block, and of its place for the count, and some beyond.
func sizes() []int {
	l := []int{0, 1, 2, 3, 1 << 20, math.MaxInt32, math.MaxInt32 - 8, 1000000}
	for _, blocks := range []int{0, 1, 2, 3, 4, 16, 1024, 1 << 20} {
		for _, n := range []int{54, 55, 56, 57, 62, 63, 64, 65} {
			l = append(l, 64*blocks+n)
		}
	}
	return l
}

// states are some with all bits unset, all set, one set, and others.
func states() [][8]uint32 {
	l := [][8]uint32{{}, sha.Start(), ones(), {0, 1, 2, 3, 4, 5, 6, 7}, {7, 6, 5, 4, 3, 2, 1, 0}}
	for i := range 8 {
		var low, high, most [8]uint32
		low[i], high[i], most[i] = 1, 1<<31, math.MaxUint32
		l = append(l, low, high, most, words(some(32, uint64(i))))
	}
	return l
}

// blocks are some with all bits unset, all set, one set, and others.
func blocks() [][64]byte {
	var up [64]byte
	for i := range up {
		up[i] = byte(i)
	}
	l := [][64]byte{{}, full(), up, [64]byte(some(64, 99))}
	for i := range 64 {
		var low, high, most [64]byte
		low[i], high[i], most[i] = 1, 0x80, 0xff
		l = append(l, low, high, most, [64]byte(some(64, uint64(i))))
	}
	return l
}

func ones() [8]uint32 {
	var s [8]uint32
	for i := range s {
		s[i] = math.MaxUint32
	}
	return s
}

func full() [64]byte {
	return [64]byte(bytes.Repeat([]byte{0xff}, 64))
}

// words are the eight numbers whose bytes b is, the highest one first.
func words(b []byte) [8]uint32 {
	var s [8]uint32
	for i := range s {
		s[i] = binary.BigEndian.Uint32(b[4*i:])
	}
	return s
}

// laid are the bytes of a state.
func laid(s [8]uint32) [32]byte {
	var d [32]byte
	for i, n := range s {
		binary.BigEndian.PutUint32(d[4*i:], n)
	}
	return d
}

// through goes on from a state, block by block, over b, which is whole blocks.
func through(t *testing.T, s [8]uint32, b []byte) [8]uint32 {
	t.Helper()
	if len(b)%64 != 0 {
		t.Fatalf("%d bytes are no blocks", len(b))
	}
	for at := 0; at < len(b); at += 64 {
		s = sha.Block(s, [64]byte(b[at:]))
	}
	return s
}

// libraryBlock is the state behind a block by the library's digest, which is told the state it goes on from.
func libraryBlock(t *testing.T, s [8]uint32, block [64]byte) [8]uint32 {
	t.Helper()
	first := laid(s)
	kept := append([]byte("sha\x03"), first[:]...)
	kept = append(kept, make([]byte, 64+8)...)
	h := sha256.New()
	if err := h.(encoding.BinaryUnmarshaler).UnmarshalBinary(kept); err != nil {
		t.Fatal(err)
	}
	h.Write(block[:])
	kept, err := h.(encoding.BinaryMarshaler).MarshalBinary()
	if err != nil {
		t.Fatal(err)
	}
	return words(kept[4:])
}

// roots are the first 32 bits of the fractions of the k-th roots of the first n primes.
func roots(k, n int) []uint32 {
	var l []uint32
	for p := int64(2); len(l) < n; p++ {
		if !big.NewInt(p).ProbablyPrime(0) {
			continue
		}
		// Of p times 2 to the power of 32 k the whole root has the 32 bits as its lowest ones. Each bit is kept that does not go beyond it.
		of, root := new(big.Int).Lsh(big.NewInt(p), uint(32*k)), new(big.Int)
		for bit := 40; bit >= 0; bit-- {
			root.SetBit(root, bit, 1)
			if new(big.Int).Exp(root, big.NewInt(int64(k)), nil).Cmp(of) > 0 {
				root.SetBit(root, bit, 0)
			}
		}
		l = append(l, uint32(root.Uint64()))
	}
	return l
}

// P3.1

func TestDigestsThatAreKnown(t *testing.T) {
	for _, c := range []struct {
		b    []byte
		want string
	}{
		{nil, "e3b0c44298fc1c149afbf4c8996fb92427ae41e4649b934ca495991b7852b855"},
		{[]byte{}, "e3b0c44298fc1c149afbf4c8996fb92427ae41e4649b934ca495991b7852b855"},
		{[]byte("a"), "ca978112ca1bbdcafac231b39a23dc4da786eff8147c4e72b9807785afee48bb"},
		{[]byte("abc"), "ba7816bf8f01cfea414140de5dae2223b00361a396177a9cb410ff61f20015ad"},
		{[]byte("abcdbcdecdefdefgefghfghighijhijkijkljklmklmnlmnomnopnopq"), "248d6a61d20638b8e5c026930c3e6039a33ce45964ff2167f6ecedd419db06c1"},
		{[]byte("abcdefghbcdefghicdefghijdefghijkefghijklfghijklmghijklmnhijklmnoijklmnopjklmnopqklmnopqrlmnopqrsmnopqrstnopqrstu"), "cf5b16a778af8380036ce59e7b0492370b249b11e8f07a51afac45037afee9d1"},
		{bytes.Repeat([]byte("a"), 1000000), "cdc76e5c9914fb9281a1c7e284d73e67f1809a48a497200e046d39ccc7112cd0"},
		// Some that the NIST's remarks on the digest tell.
		{[]byte{0xbd}, "68325720aabd7c82f30f554b313d0570c95accbb7dc4b5aae11204c08ffe732b"},
		{[]byte{0xc9, 0x8c, 0x8e, 0x55}, "7abc22c0ae5af26ce93dbb94433a0e0b2e119d014f8e7f65bd56c61ccccd9504"},
		{make([]byte, 55), "02779466cdec163811d078815c633f21901413081449002f24aa3e80f0b88ef7"},
		{make([]byte, 56), "d4817aa5497628e7c77e6b606107042bbba3130888c5f47a375e6179be789fbb"},
		{make([]byte, 57), "65a16cb7861335d5ace3c60718b5052e44660726da4cd13bb745381b235a1785"},
		{make([]byte, 64), "f5a5fd42d16a20302798ef6ed309979b43003d2320d9f0e8ea9831a92759fb4b"},
		{make([]byte, 1000), "541b3e9daa09b20bf85fa273e5cbd3e80185aa4ec298e765db87742b70138a53"},
		{bytes.Repeat([]byte("A"), 1000), "c2e686823489ced2017f6059b8b239318b6364f6dcd835d0a519105a1eadd6e4"},
		{bytes.Repeat([]byte("U"), 1005), "f4d62ddec0f3dd90ea1380fa16a5ff8dc4c54b21740650f24afc4120903552b0"},
	} {
		if d := sha.Sum(c.b); hex.EncodeToString(d[:]) != c.want {
			t.Errorf("of %d bytes: %x; want %s", len(c.b), d, c.want)
		}
	}
}

func TestDigestOfMany(t *testing.T) {
	for _, b := range many() {
		if got := sha.Sum(b); got != sha256.Sum256(b) {
			t.Fatalf("of %d bytes, %x: %x", len(b), b, got)
		}
	}
}

func TestDigestOfEachByte(t *testing.T) {
	for x := range 256 {
		for _, n := range []int{1, 55, 56, 64} {
			b := bytes.Repeat([]byte{byte(x)}, n)
			if got := sha.Sum(b); got != sha256.Sum256(b) {
				t.Fatalf("of %d times %x: %x", n, x, got)
			}
		}
	}
}

func TestDigestsOfOtherBytesAreOthers(t *testing.T) {
	seen := map[[32]byte]int{}
	for n := range 300 {
		seen[sha.Sum(make([]byte, n))] = n
	}
	b := make([]byte, 130)
	for bit := range 8 * len(b) {
		b[bit/8] ^= 1 << (bit % 8)
		seen[sha.Sum(b)] = bit
		b[bit/8] = 0
	}
	if want := 300 + 8*len(b); len(seen) != want {
		t.Errorf("%d digests of %d", len(seen), want)
	}
}

func TestPad(t *testing.T) {
	for _, c := range []struct {
		n, zeros int
		count    string
	}{
		{0, 55, "0000000000000000"},
		{1, 54, "0000000000000008"},
		{3, 52, "0000000000000018"},
		{54, 1, "00000000000001b0"},
		{55, 0, "00000000000001b8"},
		{56, 63, "00000000000001c0"},
		{57, 62, "00000000000001c8"},
		{63, 56, "00000000000001f8"},
		{64, 55, "0000000000000200"},
		{65, 54, "0000000000000208"},
		{118, 1, "00000000000003b0"},
		{119, 0, "00000000000003b8"},
		{120, 63, "00000000000003c0"},
		{127, 56, "00000000000003f8"},
		{128, 55, "0000000000000400"},
		{8191, 56, "000000000000fff8"},
		{8192, 55, "0000000000010000"},
		{1<<21 - 1, 56, "0000000000fffff8"},
		{1 << 21, 55, "0000000001000000"},
		{0x1f2e3d4c, 43, "00000000f971ea60"},
		{math.MaxInt32, 56, "00000003fffffff8"},
	} {
		want := "80" + hex.EncodeToString(make([]byte, c.zeros)) + c.count
		if got := sha.Pad(c.n); hex.EncodeToString(got) != want {
			t.Errorf("Pad(%d) = %x; want %s", c.n, got, want)
		}
	}
}

func TestPadOfALengthBelowZero(t *testing.T) {
	want := sha.Pad(0)
	if len(want) != 64 {
		t.Fatalf("Pad(0) = %x", want)
	}
	for _, n := range []int{-1, -2, -8, -9, -55, -56, -63, -64, -65, -1000, math.MinInt32, math.MinInt + 1, math.MinInt} {
		if got := sha.Pad(n); !bytes.Equal(got, want) {
			t.Errorf("Pad(%d) = %x", n, got)
		}
	}
}

// wantPad asks a pad's every byte: as few zeros as needed are fewer than a block has bytes.
func wantPad(t *testing.T, n int) {
	t.Helper()
	pad := sha.Pad(n)
	end := len(pad) - 8
	if end < 1 || end > 64 || (n%64+len(pad))%64 != 0 {
		t.Fatalf("Pad(%d) has %d bytes", n, len(pad))
	}
	if pad[0] != 0x80 || !bytes.Equal(pad[1:end], make([]byte, end-1)) {
		t.Errorf("Pad(%d) begins with %x", n, pad[:end])
	}
	if binary.BigEndian.Uint64(pad[end:]) != uint64(n)<<3 {
		t.Errorf("Pad(%d) ends with %x", n, pad[end:])
	}
}

func TestPadOfMany(t *testing.T) {
	for n := range 5000 {
		wantPad(t, n)
	}
	for _, n := range sizes() {
		wantPad(t, n)
	}
}

// A length whose bits do not go into eight bytes is answered, too, and has a pad of the same form.
func TestPadOfTheGreatestLengths(t *testing.T) {
	for i := range 130 {
		wantPad(t, math.MaxInt-i)
	}
	for bit := 32; bit < 63; bit++ {
		for _, n := range []int{1<<bit - 1, 1 << bit, 1<<bit + 56} {
			wantPad(t, n)
		}
	}
}

func TestStart(t *testing.T) {
	want := [8]uint32{0x6a09e667, 0xbb67ae85, 0x3c6ef372, 0xa54ff53a, 0x510e527f, 0x9b05688c, 0x1f83d9ab, 0x5be0cd19}
	if got := sha.Start(); got != want {
		t.Errorf("%08x", got)
	}
	// They are of the square roots, as the constants are of the cube roots.
	if got := sha.Start(); got != [8]uint32(roots(2, 8)) {
		t.Errorf("%08x", got)
	}
}

func TestBlocksThatAreKnown(t *testing.T) {
	two := []byte("abcdbcdecdefdefgefghfghighijhijkijkljklmklmnlmnomnopnopq")
	two = append(append(two, 0x80), make([]byte, 7+56)...)
	two = append(two, 0, 0, 0, 0, 0, 0, 1, 0xc0)
	behind := [8]uint32{0x85e655d6, 0x417a1795, 0x3363376a, 0x624cde5c, 0x76e09589, 0xcac5f811, 0xcc4b32c1, 0xf20e533a}
	abc := [64]byte{'a', 'b', 'c', 0x80, 63: 24}
	for _, c := range []struct {
		state [8]uint32
		block [64]byte
		want  [8]uint32
	}{
		{sha.Start(), abc, [8]uint32{0xba7816bf, 0x8f01cfea, 0x414140de, 0x5dae2223, 0xb00361a3, 0x96177a9c, 0xb410ff61, 0xf20015ad}},
		{sha.Start(), [64]byte{0: 0x80}, [8]uint32{0xe3b0c442, 0x98fc1c14, 0x9afbf4c8, 0x996fb924, 0x27ae41e4, 0x649b934c, 0xa495991b, 0x7852b855}},
		{sha.Start(), [64]byte(two), behind},
		{behind, [64]byte(two[64:]), [8]uint32{0x248d6a61, 0xd20638b8, 0xe5c02693, 0x0c3e6039, 0xa33ce459, 0x64ff2167, 0xf6ecedd4, 0x19db06c1}},
	} {
		if got := sha.Block(c.state, c.block); got != c.want {
			t.Errorf("Block(%08x, %x) = %08x; want %08x", c.state, c.block, got, c.want)
		}
	}
}

func TestBlockOfZerosAndOnes(t *testing.T) {
	for _, c := range []struct {
		state [8]uint32
		block [64]byte
		want  [8]uint32
	}{
		{[8]uint32{}, [64]byte{}, [8]uint32{0x7ca51614, 0x425c3ba8, 0xce54dd2f, 0xc2020ae7, 0xb6e574d1, 0x98136d0f, 0xae7e26cc, 0xbf0be7a6}},
		{[8]uint32{}, full(), [8]uint32{0x5081b30e, 0xfa9924a2, 0x8412d8aa, 0x28bb0c93, 0xda147a5a, 0xd8e1f92b, 0x5af1210d, 0x57081603}},
		{ones(), [64]byte{}, [8]uint32{0x25260809, 0x56c94ba8, 0xe7d6dd48, 0x222df1d3, 0xf914c4b0, 0xb823beb6, 0xe8cebb7a, 0xddcdff59}},
		{ones(), full(), [8]uint32{0x0598127a, 0xaf11706e, 0x77401fff, 0xd730c549, 0x0b84c867, 0xa98c6ca3, 0xd7f3c0f9, 0x06a78b79}},
		{sha.Start(), [64]byte{}, [8]uint32{0xda5698be, 0x17b9b469, 0x62335799, 0x779fbeca, 0x8ce5d491, 0xc0d26243, 0xbafef9ea, 0x1837a9d8}},
		{sha.Start(), full(), [8]uint32{0xef0c748d, 0xf4da50a8, 0xd6c43c01, 0x3edc3ce7, 0x6c9d9fa9, 0xa1458ade, 0x56eb86c0, 0xa64492d2}},
	} {
		if got := sha.Block(c.state, c.block); got != c.want {
			t.Errorf("Block(%08x, %x) = %08x; want %08x", c.state, c.block, got, c.want)
		}
	}
}

func TestBlockOfAnyState(t *testing.T) {
	for _, s := range states() {
		for _, block := range blocks() {
			if got, want := sha.Block(s, block), libraryBlock(t, s, block); got != want {
				t.Fatalf("Block(%08x, %x) = %08x; want %08x", s, block, got, want)
			}
		}
	}
}

// plainBlock is the chapter's words again, with lists that grow, and constants that are worked out.
func plainBlock(s [8]uint32, block [64]byte) [8]uint32 {
	right := func(x uint32, n int) uint32 { return x>>n | x<<(32-n) }
	var w []uint32
	for i := range 64 {
		if i < 16 {
			w = append(w, binary.BigEndian.Uint32(block[4*i:]))
			continue
		}
		x, y := w[i-15], w[i-2]
		w = append(w, w[i-16]+(right(x, 7)^right(x, 18)^x>>3)+w[i-7]+(right(y, 17)^right(y, 19)^y>>10))
	}
	l := s
	for i, k := range roots(3, 64) {
		a, b, c, d, e, f, g, h := l[0], l[1], l[2], l[3], l[4], l[5], l[6], l[7]
		t := h + (right(e, 6) ^ right(e, 11) ^ right(e, 25)) + (e&f | ^e&g) + k + w[i]
		u := (right(a, 2) ^ right(a, 13) ^ right(a, 22)) + (a&b | a&c | b&c)
		l = [8]uint32{t + u, a, b, c, d + t, e, f, g}
	}
	for i := range s {
		s[i] += l[i]
	}
	return s
}

func TestBlockIsAsTheWordsTell(t *testing.T) {
	for i := range 64 {
		s, block := words(some(32, uint64(100+i))), [64]byte(some(64, uint64(200+i)))
		if got, want := sha.Block(s, block), plainBlock(s, block); got != want {
			t.Fatalf("Block(%08x, %x) = %08x; want %08x", s, block, got, want)
		}
	}
}

func TestWhatIsHandedInIsNotChanged(t *testing.T) {
	for _, n := range []int{0, 1, 55, 56, 63, 64, 65, 128, 190} {
		room := some(400, 21)
		kept := bytes.Clone(room)
		// The room behind the end neither counts nor is written to: the pad would go into it.
		got := sha.Sum(room[:n])
		if !bytes.Equal(room, kept) {
			t.Errorf("%d bytes: what was handed in, or the room behind it, is changed", n)
		}
		if got != sha256.Sum256(kept[:n]) {
			t.Errorf("%d bytes: %x", n, got)
		}
		for i := n; i < len(room); i++ {
			room[i] ^= 0xff
		}
		if sha.Sum(room[:n]) != got {
			t.Errorf("%d bytes: the room behind the end counts", n)
		}
	}
	s, block := ones(), full()
	sha.Block(s, block)
	if s != ones() || block != full() {
		t.Errorf("%08x, %x", s, block)
	}
}

func TestNothingIsKept(t *testing.T) {
	b := some(200, 22)
	first := sha.Sum(b)
	b[0] ^= 1
	if sha.Sum(b) == first {
		t.Error("the digest is of what was")
	}
	b[0] ^= 1
	if sha.Sum(b) != first {
		t.Error("the digest of the same is another one")
	}
	state := sha.Block(sha.Start(), full())
	for range 3 {
		sha.Sum(some(77, 23))
		if sha.Block(sha.Start(), full()) != state {
			t.Error("the state behind the same block is another one")
		}
	}
}

func TestAnswersAreNewMemory(t *testing.T) {
	for _, n := range []int{-1, 0, 55, 56, 64} {
		first, second := sha.Pad(n), sha.Pad(n)
		kept := bytes.Clone(first)
		for i := range first {
			first[i] = '!'
		}
		first = append(first, "!!!!!!!!"...)
		if !bytes.Equal(second, kept) || !bytes.Equal(sha.Pad(n), kept) {
			t.Errorf("Pad(%d) shares its memory with %x: %x, %x", n, first, second, sha.Pad(n))
		}
	}
	start := sha.Start()
	kept := start
	for i := range start {
		start[i] = 0
	}
	if sha.Start() != kept {
		t.Errorf("Start() = %08x", sha.Start())
	}
	d := sha.Sum(nil)
	d[0]++
	if sha.Sum(nil) != sha256.Sum256(nil) {
		t.Errorf("Sum() = %x", sha.Sum(nil))
	}
}

// P3.2

func TestDigestGoesOnBlockByBlock(t *testing.T) {
	for _, b := range many() {
		all := append(bytes.Clone(b), sha.Pad(len(b))...)
		if got := laid(through(t, sha.Start(), all)); got != sha.Sum(b) {
			t.Fatalf("of %d bytes, %x: %x; want %x", len(b), b, got, sha.Sum(b))
		}
	}
}

// What is behind a block hangs on the state alone, not on what led to it.
func TestDigestGoesOnFromEachBlock(t *testing.T) {
	b := some(64*7+30, 31)
	all := append(bytes.Clone(b), sha.Pad(len(b))...)
	for at := 0; at <= len(all); at += 64 {
		state := through(t, sha.Start(), all[:at])
		if got := laid(through(t, state, all[at:])); got != sha.Sum(b) {
			t.Errorf("from %d on: %x; want %x", at, got, sha.Sum(b))
		}
	}
}

// A digest is a state: behind the bytes and their pad, it goes on with others.
func TestDigestGoesOnFromADigest(t *testing.T) {
	for _, n := range []int{0, 1, 54, 55, 56, 63, 64, 65, 119, 120, 128} {
		for _, m := range []int{0, 1, 55, 56, 64, 200} {
			b, more := some(n, 41), some(m, 42)
			ahead := append(bytes.Clone(b), sha.Pad(n)...)
			d := sha.Sum(b)
			rest := append(bytes.Clone(more), sha.Pad(len(ahead)+m)...)
			want := sha.Sum(append(ahead, more...))
			if got := laid(through(t, words(d[:]), rest)); got != want {
				t.Errorf("%d bytes, and %d behind: %x; want %x", n, m, got, want)
			}
		}
	}
}

func FuzzDigest(f *testing.F) {
	f.Add([]byte(nil), make([]byte, 32))
	f.Add([]byte("abc"), bytes.Repeat([]byte{0xff}, 32))
	f.Add(make([]byte, 55), some(32, 1))
	f.Add(make([]byte, 56), some(32, 2))
	f.Add(make([]byte, 64), some(32, 3))
	f.Fuzz(func(t *testing.T, b, state []byte) {
		got := sha.Sum(b)
		if got != sha256.Sum256(b) {
			t.Errorf("%x: %x", b, got)
		}
		all := append(bytes.Clone(b), sha.Pad(len(b))...)
		if laid(through(t, sha.Start(), all)) != got {
			t.Errorf("%x, block by block: another one", b)
		}
		if len(state) < 32 {
			return
		}
		s, block := words(state), [64]byte(all)
		if got, want := sha.Block(s, block), libraryBlock(t, s, block); got != want {
			t.Errorf("Block(%08x, %x) = %08x; want %08x", s, block, got, want)
		}
	})
}
