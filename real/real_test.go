package real_test

import (
	"cmp"
	"math"
	"math/big"
	"math/rand/v2"
	"slices"
	"testing"

	"taximeter/real"
)

const sign = 1 << 63

// step is one of the classes in their order, and its numbers in theirs, from the least on.
type step struct {
	class int
	l     []uint64
}

// byNumber holds two against each other as the language does; none of them may be what is not a number.
func byNumber(a, b uint64) int {
	return cmp.Compare(math.Float64frombits(a), math.Float64frombits(b))
}

// pluses are numbers above 0, each less than the next: the edges, those around powers of 2, whole ones and fractions.
func pluses() []uint64 {
	l := []uint64{
		1, 2, 3, 0x000123456789abcd, 0x0008000000000000, 0x000ffffffffffffe, 0x000fffffffffffff, // subnormal
		0x0010000000000000, 0x0010000000000001, 0x001fffffffffffff, 0x0020000000000000,
		0x7fdfffffffffffff, 0x7fe0000000000000, 0x7feffffffffffffe, 0x7fefffffffffffff, // up to the greatest
	}
	for e := -1000; e < 1000; e += 37 {
		l = append(l, math.Float64bits(math.Ldexp(1, e)))
	}
	for _, f := range []float64{
		1e-300, 0x1p-107, 0x1p-55, 0x1p-54, 0x1p-53, 0x3p-54, 0x1p-52, 1e-9, 0.1, 0.25, 1.0 / 3, 0.5, 2.0 / 3, 0.7, 0.75, 0.999, 1,
		1.1, 1.5, 2, 2.5, 3, 4, 7, 12, 100, 123456789, 0x1p31, 0x1p32, 0x1p52, 0x1p53, 0x1p62, 0x1p63, 0x1p64, 1e300,
	} {
		x := math.Float64bits(f)
		l = append(l, x-1, x, x+1)
	}
	r := rand.New(rand.NewPCG(5, 1))
	for range 200 {
		l = append(l, 1+r.Uint64N(0x7fefffffffffffff), math.Float64bits(0x1p-1074+r.Float64()))
	}
	slices.SortFunc(l, byNumber)
	return slices.Compact(l)
}

// none are not a number: with either sign, each single bit, and all.
func none() []uint64 {
	l := []uint64{math.Float64bits(math.NaN()), 0x7ff8000000000000, 0x7fffffffffffffff, 0x7ff7ffffffffffff, 0x7ff8000000000003, 0x7ff123456789abcd}
	for bit := range 52 {
		l = append(l, 0x7ff0000000000000|1<<bit)
	}
	for _, x := range slices.Clone(l) {
		l = append(l, x|sign)
	}
	return l
}

// steps are all numbers of the tests, those that are not a number alone left out.
func steps() []step {
	up := pluses()
	var down []uint64
	for _, x := range slices.Backward(up) {
		down = append(down, x|sign)
	}
	return []step{
		{real.MinusInfinite, []uint64{0xfff0000000000000}},
		{real.Minus, down},
		{real.MinusZero, []uint64{sign}},
		{real.Zero, []uint64{0}},
		{real.Plus, up},
		{real.Infinite, []uint64{0x7ff0000000000000}},
	}
}

// ordered are the steps' numbers, each ahead of the next.
func ordered() []uint64 {
	var l []uint64
	for _, s := range steps() {
		l = append(l, s.l...)
	}
	return l
}

// some are n numbers that look like no rule, those that are not a number among them.
func some(n int) []uint64 {
	r := rand.New(rand.NewPCG(5, 2))
	l := make([]uint64, n)
	for i := range l {
		l[i] = r.Uint64()
		switch i % 8 {
		case 1:
			l[i] |= 0x7ff0000000000000
		case 2:
			l[i] &^= 0x7ff0000000000000
		case 3:
			l[i] = math.Float64bits(r.Float64())
		}
	}
	return l
}

// all are all numbers of the tests.
func all() []uint64 {
	return slices.Concat(ordered(), none(), some(4000))
}

// P5.1: Class

func TestClassesAreNumbered(t *testing.T) {
	l := []int{real.NotANumber, real.MinusInfinite, real.Minus, real.MinusZero, real.Zero, real.Plus, real.Infinite}
	if !slices.Equal(l, []int{0, 1, 2, 3, 4, 5, 6}) {
		t.Error(l)
	}
}

func TestClass(t *testing.T) {
	for _, s := range append(steps(), step{real.NotANumber, none()}) {
		for _, x := range s.l {
			if got := real.Class(x); got != s.class {
				t.Errorf("%x: class %d; want %d", x, got, s.class)
			}
		}
	}
}

// plainClass tells a class by a number's bits alone.
func plainClass(x uint64) int {
	rest := x &^ sign
	below := x != rest
	switch {
	case rest > 0x7ff0000000000000:
		return 0
	case rest == 0x7ff0000000000000 && below:
		return 1
	case rest == 0x7ff0000000000000:
		return 6
	case rest == 0 && below:
		return 3
	case rest == 0:
		return 4
	case below:
		return 2
	}
	return 5
}

func TestClassByBits(t *testing.T) {
	for _, x := range all() {
		if got, want := real.Class(x), plainClass(x); got != want {
			t.Errorf("%x: class %d; want %d", x, got, want)
		}
	}
}

// P5.1: Less and Key

// wantOrder asks that a is ahead of b just if ahead says so, by Less and by Key.
func wantOrder(t *testing.T, a, b uint64, ahead bool) {
	t.Helper()
	if got := real.Less(a, b); got != ahead {
		t.Errorf("Less(%x, %x) = %t", a, b, got)
	}
	if k, l := real.Key(a), real.Key(b); (k < l) != ahead {
		t.Errorf("the keys of %x, %x: %x, %x", a, b, k, l)
	}
}

func TestOrderOfEachTwo(t *testing.T) {
	l := ordered()
	for i, a := range l {
		for k, b := range l {
			wantOrder(t, a, b, i < k)
		}
	}
}

func TestWhatIsNotANumberStandsBehindAll(t *testing.T) {
	for _, a := range none() {
		for _, b := range ordered() {
			wantOrder(t, a, b, false)
			wantOrder(t, b, a, true)
		}
	}
}

func TestAllThatAreNotANumberAreAsGood(t *testing.T) {
	for _, a := range none() {
		for _, b := range none() {
			wantOrder(t, a, b, false)
			if real.Key(a) != real.Key(b) {
				t.Errorf("%x and %x have two keys: %x, %x", a, b, real.Key(a), real.Key(b))
			}
		}
	}
}

func TestZerosAreTwo(t *testing.T) {
	wantOrder(t, sign, 0, true)
	wantOrder(t, 0, sign, false)
	wantOrder(t, 0, 0, false)
	wantOrder(t, sign, sign, false)
	wantOrder(t, 1|sign, sign, true)
	wantOrder(t, 0, 1, true)
}

// plainLess is the chapter's words again: by classes, and within one by what the language says.
func plainLess(a, b uint64) bool {
	k, l := plainClass(a), plainClass(b)
	if k == l {
		return math.Float64frombits(a) < math.Float64frombits(b)
	}
	return k != 0 && (l == 0 || k < l)
}

func TestOrderByWords(t *testing.T) {
	l := some(4000)
	for i, a := range l {
		for _, b := range [][]uint64{l[max(0, i-8):i], none(), {0, sign, a, a ^ 1, a ^ sign, a + 1, a - 1, 0x7ff0000000000000, 0xfff0000000000000}} {
			for _, b := range b {
				wantOrder(t, a, b, plainLess(a, b))
				wantOrder(t, b, a, plainLess(b, a))
			}
		}
	}
}

func TestSortByLess(t *testing.T) {
	want := slices.Concat(ordered(), none())
	l := slices.Clone(want)
	rand.New(rand.NewPCG(5, 3)).Shuffle(len(l), func(i, k int) { l[i], l[k] = l[k], l[i] })
	slices.SortFunc(l, func(a, b uint64) int {
		switch {
		case real.Less(a, b):
			return -1
		case real.Less(b, a):
			return 1
		}
		return 0
	})
	n := len(ordered())
	if !slices.Equal(l[:n], want[:n]) {
		t.Error("what was sorted stands in another order")
	}
	for _, x := range l[n:] {
		if plainClass(x) != 0 {
			t.Errorf("%x stands with those that are not a number", x)
		}
	}
}

// P5.1: Canon

func TestCanon(t *testing.T) {
	for _, x := range none() {
		if got := real.Canon(x); got != 0x7ff8000000000000 {
			t.Errorf("%x: %x", x, got)
		}
	}
	for _, x := range ordered() {
		want := x
		if x == sign {
			want = 0
		}
		if got := real.Canon(x); got != want {
			t.Errorf("%x: %x; want %x", x, got, want)
		}
	}
}

func TestCanonOfCanon(t *testing.T) {
	for _, x := range all() {
		c := real.Canon(x)
		if real.Canon(c) != c {
			t.Errorf("%x: %x, and again %x", x, c, real.Canon(c))
		}
		if f, g := math.Float64frombits(x), math.Float64frombits(c); f != g && (f == f || g == g) {
			t.Errorf("%x: %x is another number", x, c)
		}
	}
}

// P5.2: Parts

func wantParts(t *testing.T, x, m uint64, e int, is bool) {
	t.Helper()
	if a, b, c := real.Parts(x); a != m || b != e || c != is {
		t.Errorf("Parts(%x) = %d, %d, %t; want %d, %d, %t", x, a, b, c, m, e, is)
	}
}

func TestPartsThatAreKnown(t *testing.T) {
	for _, c := range []struct {
		f float64
		m uint64
		e int
	}{
		{0, 0, 0},
		{math.Copysign(0, -1), 0, 0},
		{1, 1, 0},
		{2, 1, 1},
		{3, 3, 0},
		{12, 3, 2},
		{10, 5, 1},
		{0.5, 1, -1},
		{0.25, 1, -2},
		{0.75, 3, -2},
		{2.5, 5, -1},
		{1023, 1023, 0},
		{1024, 1, 10},
		{0x1p52, 1, 52},
		{0x1p53 - 1, 1<<53 - 1, 0},
		{0x1p53, 1, 53},
		{0x1p53 + 2, 1<<52 + 1, 1},
		{0x1p63, 1, 63},
		{0x1p64, 1, 64},
		{1 + 0x1p-52, 1<<52 + 1, -52},
		{1 - 0x1p-53, 1<<53 - 1, -53},
		{0.1, 3602879701896397, -55},
		{math.Pi, 884279719003555, -48},
		{math.MaxFloat64, 1<<53 - 1, 971},
		{0x1p1023, 1, 1023},
		{0x1p-1022, 1, -1022}, // the least that is not subnormal
		{0x1p-1022 - 0x1p-1074, 1<<52 - 1, -1074}, // the greatest that is
		{0x1p-1023, 1, -1023},
		{0x1p-1073, 1, -1073},
		{0x3p-1074, 3, -1074},
		{math.SmallestNonzeroFloat64, 1, -1074},
	} {
		wantParts(t, math.Float64bits(c.f), c.m, c.e, true)
	}
}

// ratParts tells the parts by a fraction in its lowest terms: over 1, or a power of 2.
func ratParts(x uint64) (uint64, int) {
	r := new(big.Rat).SetFloat64(math.Float64frombits(x))
	top, e := new(big.Int).Set(r.Num()), 1-r.Denom().BitLen()
	for top.Sign() > 0 && top.Bit(0) == 0 {
		top.Rsh(top, 1)
		e++
	}
	return top.Uint64(), e
}

func TestParts(t *testing.T) {
	for _, x := range all() {
		switch plainClass(x) {
		case 3, 4:
			wantParts(t, x, 0, 0, true)
		case 5:
			m, e := ratParts(x)
			wantParts(t, x, m, e, true)
			if f := math.Ldexp(float64(m), e); m%2 != 1 || math.Float64bits(f) != x {
				t.Errorf("%x: %d times 2 to the power of %d", x, m, e)
			}
		default:
			wantParts(t, x, 0, 0, false)
		}
	}
}

func TestPartsOfWhatHasNone(t *testing.T) {
	for _, f := range []float64{-1, -0.5, -12, -math.SmallestNonzeroFloat64, -math.MaxFloat64, math.Inf(-1), math.Inf(1), math.NaN()} {
		wantParts(t, math.Float64bits(f), 0, 0, false)
	}
}

// P5.2: Pick

func wantPick(t *testing.T, x uint64, n, want int) {
	t.Helper()
	if got := real.Pick(x, n); got != want {
		t.Errorf("Pick(%x, %d) = %d; want %d", x, n, got, want)
	}
}

// counts are how many there may be: few, those around powers of 2, and the greatest.
func counts() []int {
	l := []int{1, 2, 3, 4, 5, 6, 7, 8, 9, 10, 100, 1000, 4096, math.MaxInt32, math.MaxInt, math.MaxInt - 1, math.MaxInt / 3}
	for _, bit := range []int{16, 20, 31, 32, 52, 53, 54, 60, 62} {
		l = append(l, 1<<bit-1, 1<<bit, 1<<bit+1)
	}
	return l
}

func TestPicksThatAreKnown(t *testing.T) {
	const most = math.MaxInt
	for _, c := range []struct {
		f       float64
		n, want int
	}{
		{0.5, 3, 1},
		{0.5, 2, 1},
		{0.5, 1, 0},
		{0.25, 4, 1},
		{0.25, 3, 0},
		{0.75, 4, 3},
		{0.999, 4, 3},
		{0.999, 1, 0},
		{0.7, 10, 6}, // the number is a little less than seven tenths
		{1.0 / 3, 3, 0},
		{1.0 / 3, 4, 1},
		{2.0 / 3, 3, 1},
		{0.5 - 0x1p-54, 2, 0},
		{0.5 + 0x1p-53, 2, 1},
		// Just below 1, 1, and just above it.
		{1 - 0x1p-53, 1, 0},
		{1 - 0x1p-53, 2, 1},
		{1 - 0x1p-53, 1 << 53, 1<<53 - 1},
		{1 - 0x1p-53, 1 << 54, 1<<54 - 2},
		{1 - 0x1p-53, most, most - 1024},
		{1, 1, 0},
		{1, 7, 6},
		{1, most, most - 1},
		{1 + 0x1p-52, 7, 6},
		{1 + 0x1p-52, most, most - 1},
		{1.5, 4, 3},
		{7, 4, 3},
		{math.MaxFloat64, 4, 3},
		{math.Inf(1), 4, 3},
		{math.Inf(1), most, most - 1},
		// A great n: the product is not rounded.
		{0.5, most, most / 2},
		{0.25, most, most / 4},
		{0x1p-53, most, 1<<10 - 1},
		{0x1p-53, 1 << 53, 1},
		{0x1p-53, 1<<53 - 1, 0},
		// More than 53 places behind the point: what comes behind those is cut off, not rounded.
		{0x1p-54, most, 0},
		{0x1.fffffffffffffp-54, most, 0},
		{0x3p-54, 1 << 53, 1},
		{0x3p-54, 1 << 54, 2},
		{0x1.8p-52, 1 << 53, 3},
		{0x1.cp-52, 1 << 54, 6},
		{0.25 + 0x1p-54, 1 << 54, 1 << 52},
		{0.25 + 0x1p-53, 1 << 54, 1<<52 + 2},
		{0.25 - 0x1p-54, 4, 0},
		{0.1, 10, 0}, // the number is a little more than a tenth, its first 53 places are less
		{0.25 - 0x1p-54, 1 << 53, 1<<51 - 1},
		{0x1p-1022, most, 0},
		{math.SmallestNonzeroFloat64, most, 0},
		// Not above 0.
		{0, 4, 0},
		{math.Copysign(0, -1), 4, 0},
		{-math.SmallestNonzeroFloat64, most, 0},
		{-0.5, 4, 0},
		{-1, 4, 0},
		{-math.MaxFloat64, most, 0},
		{math.Inf(-1), most, 0},
	} {
		wantPick(t, math.Float64bits(c.f), c.n, c.want)
	}
}

func TestPickOfNothing(t *testing.T) {
	for _, n := range []int{0, -1, -2, -4096, -1 << 53, math.MinInt32, math.MinInt + 1, math.MinInt} {
		for _, x := range slices.Concat(ordered(), none()) {
			wantPick(t, x, n, -1)
		}
	}
}

func TestPickOfWhatIsNotANumber(t *testing.T) {
	for _, n := range counts() {
		for _, x := range none() {
			wantPick(t, x, n, 0)
		}
	}
}

func TestPickOfOne(t *testing.T) {
	for _, x := range all() {
		wantPick(t, x, 1, 0)
	}
}

// plainPick is the chapter's words again, place by place.
func plainPick(x uint64, n int) int {
	f := math.Float64frombits(x)
	switch {
	case n < 1:
		return -1
	case f != f || f <= 0:
		return 0
	case f >= 1:
		return n - 1
	}
	k := new(big.Int)
	for range 53 {
		k.Lsh(k, 1)
		f *= 2
		if f >= 1 {
			k.SetBit(k, 0, 1)
			f--
		}
	}
	k.Mul(k, big.NewInt(int64(n)))
	return int(k.Rsh(k, 53).Int64())
}

func TestPick(t *testing.T) {
	for _, n := range counts() {
		for _, x := range all() {
			got, want := real.Pick(x, n), plainPick(x, n)
			if got != want || got < 0 || got >= n {
				t.Errorf("Pick(%x, %d) = %d; want %d", x, n, got, want)
			}
		}
	}
}

// Where a place begins: the least fraction of 53 places that is not below i parts of n picks i, the one below it does not yet.
func TestPickWhereAPlaceBegins(t *testing.T) {
	for n := 1; n <= 200; n++ {
		for i := 1; i < n; i++ {
			k := (uint64(i)<<53 + uint64(n) - 1) / uint64(n)
			wantPick(t, math.Float64bits(math.Ldexp(float64(k), -53)), n, i)
			wantPick(t, math.Float64bits(math.Ldexp(float64(k-1), -53)), n, i-1)
		}
	}
}

// P5.3

// Two that are the same as numbers, but have other bits, are just the zeros.
func TestOfAnyTwoJustOneIsAhead(t *testing.T) {
	l := slices.Concat(ordered(), none(), some(500))
	for _, a := range l {
		for _, b := range l {
			same := a == b || plainClass(a) == 0 && plainClass(b) == 0
			one, other := real.Less(a, b), real.Less(b, a)
			if one && other || (one || other) == same {
				t.Errorf("%x ahead of %x: %t; the other way round: %t", a, b, one, other)
			}
			if (real.Key(a) == real.Key(b)) != same {
				t.Errorf("the keys of %x, %x: %x, %x", a, b, real.Key(a), real.Key(b))
			}
		}
	}
}

func TestAGreaterFractionNeverPicksLess(t *testing.T) {
	l := ordered()
	r := rand.New(rand.NewPCG(5, 4))
	for range 2000 {
		l = append(l, math.Float64bits(r.Float64()))
	}
	slices.SortFunc(l, byNumber)
	for _, n := range append(counts(), 0, -1, math.MinInt) {
		last := -1
		for _, x := range l {
			got := real.Pick(x, n)
			if got < last {
				t.Errorf("Pick(%x, %d) = %d, and of a lesser fraction %d", x, n, got, last)
			}
			last = got
		}
	}
}

func FuzzReal(f *testing.F) {
	for i, x := range slices.Concat(ordered(), none()) {
		f.Add(x, x^1, counts()[i%len(counts())])
		f.Add(x, x^sign, -i)
	}
	f.Fuzz(func(t *testing.T, a, b uint64, n int) {
		wantOrder(t, a, b, plainLess(a, b))
		wantPick(t, a, n, plainPick(a, n))
		if got, want := real.Class(a), plainClass(a); got != want {
			t.Errorf("%x: class %d; want %d", a, got, want)
		}
		if plainClass(a) == 5 {
			m, e := ratParts(a)
			wantParts(t, a, m, e, true)
		}
	})
}
