package price_test

import (
	"math"
	"math/big"
	"math/rand/v2"
	"slices"
	"testing"

	"taximeter/api"
	"taximeter/price"
)

const (
	sign = 1 << 63
	most = math.MaxUint64
)

// prices are prices, each less than the next: zero, the edges, those around powers of 2, fractions and whole ones. Bits of numbers that are not below 0 stand in the numbers' order.
func prices() []uint64 {
	l := []uint64{
		0, 1, 2, 3, 5, 0x000123456789abcd, 0x0008000000000000, 0x000ffffffffffffe, 0x000fffffffffffff, // subnormal
		0x0010000000000000, 0x0010000000000001, 0x7fdfffffffffffff, 0x7fe0000000000000, 0x7feffffffffffffe, 0x7fefffffffffffff, // up to the greatest
	}
	around := func(f float64) {
		x := math.Float64bits(f)
		l = append(l, x-1, x, x+1)
	}
	for e := -1020; e < 1020; e += 40 {
		around(math.Ldexp(1, e))
	}
	// Where the product's words, and the room behind it, have their ends.
	for e := -120; e <= 70; e++ {
		around(math.Ldexp(1, e))
		around(math.Ldexp(1.5, e))
	}
	for _, f := range []float64{1e-300, 1e-9, 0.1, 1.0 / 3, 2.0 / 3, 0.7, 0.999, 1.1, 1.375, 1.625, 2.5, 7, 10, 12, 255, 12345.678, 123456789, 1e18, 1e300} {
		around(f)
	}
	r := rand.New(rand.NewPCG(6, 1))
	for range 200 {
		l = append(l, r.Uint64N(0x7ff0000000000000), math.Float64bits(r.Float64()), math.Float64bits(r.Float64()*1000))
	}
	slices.Sort(l)
	return slices.Compact(l)
}

// wrong are no prices: below 0, infinite, and not a number, by each single bit, by many, and with either sign.
func wrong() []uint64 {
	var l []uint64
	for _, x := range prices()[1:] {
		l = append(l, x|sign)
	}
	none := []uint64{0x7ff0000000000000, 0x7fffffffffffffff, 0x7ff8000000000003, 0x7ff123456789abcd, 0x7ff7ffffffffffff, math.Float64bits(math.NaN())}
	for bit := range 52 {
		none = append(none, 0x7ff0000000000000|1<<bit)
	}
	for _, x := range none {
		l = append(l, x, x|sign)
	}
	return l
}

// counts are numbers of bytes, each less than the next: none, few, those around powers of 2, and the greatest.
func counts() []uint64 {
	l := []uint64{0, 3, 5, 7, 10, 100, 1000, 123456789, 6148914691236517205, most / 7, most - 2, most - 1, most}
	for bit := range 64 {
		l = append(l, 1<<bit-1, 1<<bit, 1<<bit+1)
	}
	r := rand.New(rand.NewPCG(6, 2))
	for range 40 {
		l = append(l, r.Uint64(), r.Uint64()>>r.UintN(64))
	}
	slices.Sort(l)
	return slices.Compact(l)
}

// exact is so many times a price, as a fraction of whole numbers.
func exact(n, bits uint64) *big.Rat {
	p := new(big.Rat).SetFloat64(math.Float64frombits(bits))
	return p.Mul(p, new(big.Rat).SetInt(new(big.Int).SetUint64(n)))
}

// atMost is a whole number, or 2^64 - 1, if that is less.
func atMost(n *big.Int) uint64 {
	if !n.IsUint64() {
		return most
	}
	return n.Uint64()
}

// plainDue is the chapter's words again, reckoned without an end of words.
func plainDue(n, bits uint64) uint64 {
	r := exact(n, bits)
	return atMost(new(big.Int).Quo(r.Num(), r.Denom()))
}

func wantDue(t *testing.T, n, bits, want uint64) {
	t.Helper()
	if got, e := price.Due(n, bits); got != want || e != api.OK {
		t.Errorf("Due(%d, %x) = %d, %d; want %d", n, bits, got, e, want)
	}
}

// P6.1: Check

func TestCheckOfPrices(t *testing.T) {
	for _, x := range prices() {
		if got, e := price.Check(x); got != x || e != api.OK {
			t.Errorf("Check(%x) = %x, %d", x, got, e)
		}
	}
}

func TestCheckOfZeros(t *testing.T) {
	for _, x := range []uint64{0, sign, math.Float64bits(math.Copysign(0, -1))} {
		if got, e := price.Check(x); got != 0 || e != api.OK {
			t.Errorf("Check(%x) = %x, %d", x, got, e)
		}
	}
}

func TestCheckOfWhatMayNotBe(t *testing.T) {
	for _, x := range wrong() {
		if got, e := price.Check(x); got != 0 || e != api.ErrPrice {
			t.Errorf("Check(%x) = %x, %d", x, got, e)
		}
	}
}

func TestCheckOfWhatHasNoRule(t *testing.T) {
	r := rand.New(rand.NewPCG(6, 3))
	for i := range 20000 {
		x := r.Uint64()
		if i%2 == 0 {
			x |= 0x7ff0000000000000
		}
		want, is := x, api.OK
		if f := math.Float64frombits(x); f != f || f < 0 || f > math.MaxFloat64 {
			want, is = 0, api.ErrPrice
		}
		if got, e := price.Check(x); got != want || e != is {
			t.Errorf("Check(%x) = %x, %d; want %x, %d", x, got, e, want, is)
		}
	}
}

// P6.1: Due

func TestDueThatIsKnown(t *testing.T) {
	for _, c := range []struct {
		n    uint64
		f    float64
		want uint64
	}{
		{10, 0.25, 2},
		{3, 0.5, 1},
		{7, 1, 7},
		{7, 3, 21},
		{24, 1.5, 36},
		{24, 1 << 40, 24 << 40},
		{0, 0.25, 0},
		{0, 1e300, 0},
		{1, 0, 0},
		{most, 0, 0},
		// One byte: the price, rounded down.
		{1, 0.999, 0},
		{1, 1 - 0x1p-53, 0},
		{1, 1, 1},
		{1, 1 + 0x1p-52, 1},
		{1, 2 - 0x1p-52, 1},
		{1, 2, 2},
		{1, 12345.678, 12345},
		{1, 0x1p53 - 1, 1<<53 - 1},
		{1, 0x1p63, 1 << 63},
		{1, 0x1.fffffffffffffp63, most - 2047},
		{1, 0x1p64, most},
		{1, 1e300, most},
		{1, math.MaxFloat64, most},
		// The prices are the nearest numbers to what is written, a little more or less.
		{1000, 0.1, 100},
		{10, 0.1, 1},
		{10, 0.7, 6},
		{3, 1.0 / 3, 0},
		{1 << 60, 0.1, 115292150460684704},
		// The sum of both halves is whole just at an even number.
		{1<<53 + 1, 0.5, 1 << 52},
		{1<<53 + 2, 0.5, 1<<52 + 1},
		{most, 0.5, most / 2},
		{most - 1, 0.5, most / 2},
		{most - 2, 0.5, most/2 - 1},
		{most, 0.25, most / 4},
		// No rounding up of a product that has more places than a floating number.
		{most, 1 - 0x1p-53, most - 2048},
		{1 << 53, 1 - 0x1p-53, 1<<53 - 1},
		{1<<53 + 1, 1 - 0x1p-53, 1<<53 - 1},
		{1<<53 + 2, 1 - 0x1p-53, 1 << 53},
		{1<<53 - 1, 1 + 0x1p-52, 1 << 53},
		// Small prices.
		{most, 0x1p-63, 1},
		{most, 0x1p-64, 0},
		{most, 0x1p-65, 0},
		{most, 0x3p-65, 1},
		{1 << 63, 0x1p-63, 1},
		{1<<63 - 1, 0x1p-63, 0},
		{most, 0x1.0000000000001p-64, 1},
		{most, 0x1.fffffffffffffp-64, 1},
		{most, 1e-300, 0},
		{most, math.SmallestNonzeroFloat64, 0},
		{most, 0x1p-1022 - 0x1p-1074, 0},
		{most, 0x1p-1022, 0},
	} {
		wantDue(t, c.n, math.Float64bits(c.f), c.want)
	}
}

func TestDueAtTheGreatestThatIsKnown(t *testing.T) {
	for _, c := range []struct {
		n    uint64
		f    float64
		want uint64
	}{
		{most, 1, most},
		{most - 1, 1, most - 1},
		{most, 1 + 0x1p-52, most},
		{most, 2, most},
		{most, math.MaxFloat64, most},
		// Whole products: one less, 2^64 - 1 itself, one more.
		{1<<63 - 1, 2, most - 1},
		{most / 3, 3, most},
		{most/3 - 1, 3, most - 3},
		{most/3 + 1, 3, most},
		{most / 5, 5, most},
		{1 << 63, 2, most},
		{1<<32 - 1, 0x1p32, most - (1<<32 - 1)},
		{1 << 32, 0x1p32, most},
		{1<<32 + 1, 1<<32 - 1, most},
		{1<<32 - 1, 1<<32 + 1, most},
		// By fractions: 3/2, 5/4, 1 and 3/8 below 2^64 - 1, just it, and 1/8, 3/4, 5/4 above it.
		{12297829382473034409, 1.5, most - 2},
		{13415813871788764810, 1.375, most - 2},
		{10540996613548315208, 1.75, most - 1},
		{11351842506898185609, 1.625, most - 1},
		{12297829382473034410, 1.5, most},
		{13415813871788764811, 1.375, most},
		{10540996613548315209, 1.75, most},
		{11351842506898185610, 1.625, most},
	} {
		wantDue(t, c.n, math.Float64bits(c.f), c.want)
	}
}

func TestDue(t *testing.T) {
	l := counts()
	for _, x := range prices() {
		for _, n := range l {
			wantDue(t, n, x, plainDue(n, x))
		}
	}
}

func TestDueAtMinusZero(t *testing.T) {
	for _, n := range counts() {
		wantDue(t, n, sign, 0)
	}
}

func TestDueOfWhatMayNotBe(t *testing.T) {
	for _, x := range wrong() {
		for _, n := range []uint64{0, 1, 10, 1 << 63, most} {
			if got, e := price.Due(n, x); got != 0 || e != api.ErrPrice {
				t.Errorf("Due(%d, %x) = %d, %d", n, x, got, e)
			}
		}
	}
}

// wantDueNear asks for as many bytes, for one less, and for one more.
func wantDueNear(t *testing.T, n, x uint64) {
	t.Helper()
	for _, k := range []uint64{n - 1, n, n + 1} {
		wantDue(t, k, x, plainDue(k, x))
	}
}

// Where a whole number begins: of a price that is m parts of 2 to the power of k, some number of bytes comes to one part less than a whole number, some to a whole one, some to one part more.
func TestDueWhereAWholeNumberBegins(t *testing.T) {
	r := rand.New(rand.NewPCG(6, 4))
	for k := uint(1); k <= 64; k++ {
		for range 20 {
			m := r.Uint64()>>r.UintN(11)>>11 | 1
			x := math.Float64bits(math.Ldexp(float64(m), -int(k)))
			end := new(big.Int).Lsh(big.NewInt(1), k)
			above := new(big.Int).ModInverse(new(big.Int).SetUint64(m), end)
			below := new(big.Int).Sub(end, above)
			for _, n := range []*big.Int{above, below} {
				wantDueNear(t, n.Uint64(), x)
			}
			if k < 64 {
				wantDueNear(t, end.Uint64(), x)
			}
			parts := new(big.Int).SetUint64(m)
			parts.Mul(parts, below).Add(parts, big.NewInt(1)) // a whole number of ends
			wantDue(t, below.Uint64(), x, new(big.Int).Rsh(parts, k).Uint64()-1)
		}
	}
}

// Where 2^64 - 1 is come to: the greatest number of bytes that comes to no more, and its neighbours.
func TestDueWhereTheGreatestIsComeTo(t *testing.T) {
	top := new(big.Rat).SetInt(new(big.Int).SetUint64(most))
	for _, x := range prices()[1:] {
		r := new(big.Rat).Quo(top, exact(1, x))
		n := atMost(new(big.Int).Quo(r.Num(), r.Denom()))
		wantDueNear(t, n, x)
		if n < most {
			wantDue(t, n+1, x, most)
		}
	}
}

// P6.2

func wantSum(t *testing.T, a, b, want uint64, over bool) {
	t.Helper()
	if got := price.Add(a, b); got != want {
		t.Errorf("Add(%d, %d) = %d; want %d", a, b, got, want)
	}
	if got := price.Over(a, b); got != over {
		t.Errorf("Over(%d, %d) = %t", a, b, got)
	}
}

func TestSumsThatAreKnown(t *testing.T) {
	for _, c := range []struct {
		a, b, want uint64
		over       bool
	}{
		{0, 0, 0, false},
		{0, 1, 1, false},
		{2, 3, 5, false},
		{1 << 62, 1 << 62, 1 << 63, false},
		{most, 0, most, false},
		{most, 1, most, true},
		{most, 2, most, true},
		{most, most, most, true},
		{most - 1, 0, most - 1, false},
		{most - 1, 1, most, false},
		{most - 1, 2, most, true},
		{1 << 63, 1<<63 - 2, most - 1, false},
		{1 << 63, 1<<63 - 1, most, false},
		{1 << 63, 1 << 63, most, true},
		{1<<63 - 1, 1<<63 - 1, most - 1, false},
		{1<<32 - 1, most - (1<<32 - 1), most, false},
		{1 << 32, most - (1<<32 - 1), most, true},
	} {
		wantSum(t, c.a, c.b, c.want, c.over)
		wantSum(t, c.b, c.a, c.want, c.over)
	}
}

// wantPlainSum holds a sum against one that has no end of words.
func wantPlainSum(t *testing.T, a, b uint64) {
	t.Helper()
	sum := new(big.Int).Add(new(big.Int).SetUint64(a), new(big.Int).SetUint64(b))
	wantSum(t, a, b, atMost(sum), !sum.IsUint64())
}

func TestSums(t *testing.T) {
	l := counts()
	for _, a := range l {
		for _, b := range l {
			wantPlainSum(t, a, b)
		}
		for _, b := range []uint64{most - a - 1, most - a, most - a + 1} {
			wantPlainSum(t, a, b)
			wantPlainSum(t, b, a)
		}
	}
}

// P6.3

func TestMoreBytesNeverComeToLess(t *testing.T) {
	l := counts()
	for _, x := range prices() {
		last := uint64(0)
		for _, n := range l {
			got, _ := price.Due(n, x)
			if got < last {
				t.Errorf("Due(%d, %x) = %d, and less bytes come to %d", n, x, got, last)
			}
			last = got
		}
	}
}

func TestAGreaterPriceNeverComesToLess(t *testing.T) {
	l := prices()
	for _, n := range counts() {
		last := uint64(0)
		for _, x := range l {
			got, _ := price.Due(n, x)
			if got < last {
				t.Errorf("Due(%d, %x) = %d, and at a lesser price %d", n, x, got, last)
			}
			last = got
		}
	}
}

func TestNothingComesToNothing(t *testing.T) {
	for _, x := range prices() {
		wantDue(t, 0, x, 0)
	}
	for _, n := range counts() {
		wantDue(t, n, 0, 0)
	}
}

func FuzzPrice(f *testing.F) {
	for i, x := range append(prices(), sign) {
		f.Add(uint64(i)*0x0123456789abcdef, x)
		f.Add(most-uint64(i), x)
	}
	for _, x := range wrong() {
		f.Add(uint64(7), x)
	}
	f.Fuzz(func(t *testing.T, n, x uint64) {
		wantPlainSum(t, n, x)
		bits, e := price.Check(x)
		due, d := price.Due(n, x)
		if e != d {
			t.Errorf("Check(%x): %d, and Due of it: %d", x, e, d)
		}
		if v := math.Float64frombits(x); v >= 0 && v <= math.MaxFloat64 {
			if e != api.OK || math.Float64frombits(bits) != v || due != plainDue(n, x) {
				t.Errorf("Check(%x) = %x, %d; Due(%d) = %d; want %d", x, bits, e, n, due, plainDue(n, x))
			}
		} else if e != api.ErrPrice || bits != 0 || due != 0 {
			t.Errorf("Check(%x) = %x, %d; Due(%d) = %d", x, bits, e, n, due)
		}
	})
}
