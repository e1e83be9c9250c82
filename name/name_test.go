package name_test

import (
	"bytes"
	"encoding/hex"
	"math"
	"math/big"
	"math/rand/v2"
	"regexp"
	"slices"
	"strings"
	"testing"
	"unicode/utf8"

	"taximeter/api"
	"taximeter/name"
)

// The chapter's words again, as patterns.
var (
	plainTenant = regexp.MustCompile(`\A[a-z][a-z0-9-]{0,15}\z`)
	plainTarget = regexp.MustCompile(`\A[a-z0-9-][a-z0-9.:-]{0,23}\z`)
	plainDigits = regexp.MustCompile(`\A(0|[1-9][0-9]*)\z`)
	plainHex    = regexp.MustCompile(`\A(-|([0-9a-f][0-9a-f])+)\z`)
	plainLine   = regexp.MustCompile(`\A([^\x00-\x20]+( [^\x00-\x20]+)*)?\z`)
)

// odd are texts of one rune or some bytes that stand in no name and in no digits: others' digits and letters, runes whose lowest byte is a letter's or a digit's, and bytes that are no right UTF-8.
func odd() []string {
	l := []string{
		"\u00e9", "\u0660", "\u0669", "\u0966", "\uff10", "\uff11", "\uff19", "\uff41", "\uff0d", "\u2010", "\u2212", "\u00b2", "\u00bd", "\u2460",
		"\u0161", "\u0130", "\u0131", "\u012d", "\u012e", "\u013a", "\U00010061", "\U00010031", "\U0001f600",
		"\u0085", "\u00a0", "\u2028", "\u3000", "\ufeff", "\ufffd",
		"\x80", "\x9f", "\xa0", "\xb0", "\xc0\x80", "\xc0\xa0", "\xc1", "\xc3", "\xe1", "\xe2\x82", "\xed\xa0\x80", "\xf0\x9f\x98", "\xf5", "\xfe", "\xff", "\xff\xff",
	}
	return l
}

// texts are made of few pieces, by no rule: all that some call tells apart is among the pieces.
func texts(seed uint64, count int) []string {
	pieces := append(odd(), "a", "b", "f", "g", "z", "A", "F", "Z", "0", "0", "1", "9", "-", "-", "+", "_", ".", ":", "/", ",", "x", "`", "{", "@", "[", "!", "~", "\x7f", " ", " ", "  ", "\t", "\n", "\r", "\x00", "\x1f", "word", "abcdef", "12345678901", "tenant-1", "9.example:80")
	r := rand.New(rand.NewPCG(7, seed))
	l := make([]string, count)
	for i := range l {
		plain := r.IntN(3)
		for range r.IntN(9) {
			p := pieces[r.IntN(len(pieces))]
			if plain > 0 { // so that right ones are no rare ones
				p = pieces[len(odd())+r.IntN(len(pieces)-len(odd()))]
			}
			if plain > 1 {
				p = strings.Trim(p, "!+_/,`{@[~\x7f\t\n\r\x00\x1fAFZ")
			}
			l[i] += p
		}
	}
	return l
}

func wantTenant(t *testing.T, s string, want bool) {
	t.Helper()
	if got := name.Tenant(s); got != want {
		t.Errorf("Tenant(%q) = %t", s, got)
	}
}

func wantTarget(t *testing.T, s string, want bool) {
	t.Helper()
	if got := name.Target(s); got != want {
		t.Errorf("Target(%q) = %t", s, got)
	}
}

func wantNumber(t *testing.T, s string, want uint64, err api.Errno) {
	t.Helper()
	if got, e := name.Number(s); got != want || e != err {
		t.Errorf("Number(%q) = %d, %d; want %d, %d", s, got, e, want, err)
	}
}

func wantBytes(t *testing.T, s string, want []byte, err api.Errno) {
	t.Helper()
	got, e := name.Bytes(s)
	if !bytes.Equal(got, want) || e != err || err != api.OK && got != nil {
		t.Errorf("Bytes(%q) = %x, %d; want %x, %d", s, got, e, want, err)
	}
}

func wantWords(t *testing.T, line string, want []string, err api.Errno) {
	t.Helper()
	got, e := name.Words(line)
	if !slices.Equal(got, want) || e != err || err != api.OK && got != nil {
		t.Errorf("Words(%q) = %q, %d; want %q, %d", line, got, e, want, err)
	}
}

// P7.1: Tenant, Target

func TestNamesThatAreKnown(t *testing.T) {
	for _, c := range []struct {
		s              string
		tenant, target bool
	}{
		{"", false, false},
		{"a", true, true},
		{"z", true, true},
		{"a-1", true, true},
		{"1a", false, true},
		{"0", false, true},
		{"9", false, true},
		{"-", false, true},
		{"-a", false, true},
		{"a-", true, true},
		{"a--b", true, true},
		{"a0123456789-xyz", true, true},
		{".", false, false},
		{":", false, false},
		{".a", false, false},
		{":80", false, false},
		{"a.", false, true},
		{"a:", false, true},
		{"a.b", false, true},
		{"a:1", false, true},
		{"a..b::", false, true},
		{"9.example:80", false, true},
		{"10.0.0.1:443", false, true},
		{"-.:", false, true},
		{"A", false, false},
		{"aB", false, false},
		{"a b", false, false},
		{" a", false, false},
		{"a ", false, false},
		{"a\n", false, false},
		{"\na", false, false},
		{"a\x00", false, false},
		{"a_b", false, false},
		{"a/b", false, false},
		{"\u00e4", false, false},
		{"a\u00e4", false, false},
		{"a\xe4", false, false},
	} {
		wantTenant(t, c.s, c.tenant)
		wantTarget(t, c.s, c.target)
	}
}

func TestNamesByLength(t *testing.T) {
	for n := range 300 {
		wantTenant(t, strings.Repeat("a", n), n >= 1 && n <= 16)
		wantTarget(t, strings.Repeat("a", n), n >= 1 && n <= 24)
		wantTarget(t, strings.Repeat("1", n), n >= 1 && n <= 24)
		wantTenant(t, "a"+strings.Repeat("-", n), n < 16)
		wantTarget(t, "a"+strings.Repeat(":", n), n < 24)
	}
	for _, s := range []string{"abcdefghijklmnop", "a23456789-123456", "a---------------"} {
		wantTenant(t, s, true)
		wantTenant(t, s+"q", false)
		wantTarget(t, s+"q", true)
	}
	for _, s := range []string{"abcdefghijklmnopqrstuvwx", "1.3.5.7.9.abcdefghi:6553", "-.......................", "a:.:.:.:.:.:.:.:.:.:.:.:"} {
		wantTarget(t, s, true)
		wantTarget(t, s+"y", false)
		wantTarget(t, s+".", false)
	}
	wantTenant(t, strings.Repeat("a", 1<<20), false)
	wantTarget(t, strings.Repeat("a", 1<<20), false)
}

// Each byte at the first place, and at each behind it.
func TestNamesByTheirBytes(t *testing.T) {
	for i := range 256 {
		b := byte(i)
		letter := b >= 'a' && b <= 'z'
		tenant := letter || b >= '0' && b <= '9' || b == '-'
		target := tenant || b == '.' || b == ':'
		for _, behind := range []string{"", "a", "bcd-9"} {
			s := string([]byte{b}) + behind
			wantTenant(t, s, letter)
			wantTarget(t, s, tenant)
		}
		for at := 1; at < api.MaxTarget; at++ {
			long := []byte(strings.Repeat("n", api.MaxTarget))
			long[at] = b
			wantTarget(t, string(long), target)
			wantTarget(t, string(long[:at+1]), target)
			if at < api.MaxName {
				wantTenant(t, string(long[:api.MaxName]), tenant)
				wantTenant(t, string(long[:at+1]), tenant)
			}
		}
	}
}

func TestNamesOfOddBytes(t *testing.T) {
	for _, o := range odd() {
		for _, s := range []string{o, o + "a", "a" + o, "a" + o + "b", o + o, "1" + o} {
			wantTenant(t, s, false)
			wantTarget(t, s, false)
		}
	}
}

// No rune but those named stands in a name, whatever its lowest byte is.
func TestNamesOfEachRune(t *testing.T) {
	for r := rune(128); r <= utf8.MaxRune; r++ {
		s := string(r)
		if name.Tenant(s) || name.Target(s) || name.Tenant("a"+s) || name.Target("a"+s) {
			t.Fatalf("a name of %x", r)
		}
	}
}

func TestNames(t *testing.T) {
	for _, s := range texts(1, 100000) {
		wantTenant(t, s, plainTenant.MatchString(s))
		wantTarget(t, s, plainTarget.MatchString(s))
	}
}

// P7.1: Digits, Number

func TestNumbersThatAreKnown(t *testing.T) {
	for _, c := range []struct {
		n uint64
		s string
	}{
		{0, "0"},
		{1, "1"},
		{7, "7"},
		{9, "9"},
		{10, "10"},
		{99, "99"},
		{100, "100"},
		{101, "101"},
		{255, "255"},
		{1000000, "1000000"},
		{4294967295, "4294967295"},
		{4294967296, "4294967296"},
		{9223372036854775807, "9223372036854775807"},
		{9223372036854775808, "9223372036854775808"},
		{9999999999999999999, "9999999999999999999"},
		{10000000000000000000, "10000000000000000000"},
		{12345678901234567890, "12345678901234567890"},
		{math.MaxUint64 - 1, "18446744073709551614"},
		{math.MaxUint64, "18446744073709551615"},
	} {
		if got := name.Digits(c.n); got != c.s {
			t.Errorf("Digits(%d) = %q", c.n, got)
		}
		wantNumber(t, c.s, c.n, api.OK)
	}
}

func TestNumbersAboveTheGreatest(t *testing.T) {
	for _, s := range []string{
		"18446744073709551616", "18446744073709551617", "18446744073709551619", "18446744073709551620", "18446744073709551625",
		"18446744073709551700", "18446744073709552000", "18446744073710000000", "18446744080000000000", "18446750000000000000",
		"18450000000000000000", "19000000000000000000", "20000000000000000000", "36893488147419103231", "36893488147419103232",
		"99999999999999999999", "100000000000000000000", "184467440737095516150", "184467440737095516160",
		"340282366920938463463374607431768211455", "340282366920938463463374607431768211456", // 2^128 - 1, and 2^128, that goes round to 0
	} {
		wantNumber(t, s, 0, api.ErrRange)
	}
	for n := 21; n < 400; n++ {
		wantNumber(t, strings.Repeat("9", n), 0, api.ErrRange)
		wantNumber(t, "1"+strings.Repeat("0", n-1), 0, api.ErrRange)
	}
	wantNumber(t, "1"+strings.Repeat("0", 1<<20), 0, api.ErrRange)
}

func TestNumbersThatAreNone(t *testing.T) {
	long := strings.Repeat("1234567890", 100)
	for _, s := range []string{
		"", "-", "+", ".", " ", "a", "x", "\x00",
		"-0", "-1", "+0", "+1", "--1", "- 1", "-18446744073709551615",
		" 1", "1 ", "1 2", " ", "\t1", "1\t", "1\n", "\n1", "1\r\n", "1\x00",
		"1a", "a1", "1f", "f", "0x1", "0X1F", "0b1", "0o7", "1e3", "1E3", "1.0", "1.", ".5", "1,000", "1_000", "1'000", "1u", "inf", "nan", "Infinity",
		"1/", "/1", "1:", ":1",
	} {
		wantNumber(t, s, 0, api.ErrForm)
	}
	for _, o := range odd() {
		for _, s := range []string{o, o + "1", "1" + o, "1" + o + "1", "0" + o, long + o} {
			wantNumber(t, s, 0, api.ErrForm)
		}
	}
	// What is no digits is told ahead of what is too great, wherever it stands.
	for _, s := range []string{long + "a", long + " ", "a" + long, "-" + long, "+" + long, long + "-" + long, "18446744073709551616x", "0" + long, long + "_"} {
		wantNumber(t, s, 0, api.ErrForm)
	}
}

func TestNumbersWithALeadingZero(t *testing.T) {
	wantNumber(t, "0", 0, api.OK)
	for n := 2; n < 400; n++ {
		wantNumber(t, strings.Repeat("0", n), 0, api.ErrForm)
		wantNumber(t, strings.Repeat("0", n-1)+"7", 0, api.ErrForm)
		wantNumber(t, "0"+strings.Repeat("9", n-1), 0, api.ErrForm)
	}
	wantNumber(t, "018446744073709551615", 0, api.ErrForm)
	wantNumber(t, strings.Repeat("0", 1<<20), 0, api.ErrForm)
}

// Each byte as a number, and ahead of a digit, behind it, and between two.
func TestNumbersByTheirBytes(t *testing.T) {
	for i := range 256 {
		b := string([]byte{byte(i)})
		d, is := uint64(i-'0'), i >= '0' && i <= '9'
		if !is {
			for _, s := range []string{b, b + "5", "5" + b, "5" + b + "5"} {
				wantNumber(t, s, 0, api.ErrForm)
			}
			continue
		}
		wantNumber(t, b, d, api.OK)
		wantNumber(t, "5"+b, 50+d, api.OK)
		wantNumber(t, "5"+b+"5", 505+10*d, api.OK)
		if d > 0 {
			wantNumber(t, b+"5", 10*d+5, api.OK)
		}
	}
}

// plainNumber is the chapter's words again, reckoned without an end of words.
func plainNumber(s string) (uint64, api.Errno) {
	if !plainDigits.MatchString(s) {
		return 0, api.ErrForm
	}
	n, _ := new(big.Int).SetString(s, 10)
	if !n.IsUint64() {
		return 0, api.ErrRange
	}
	return n.Uint64(), api.OK
}

func TestNumbers(t *testing.T) {
	r := rand.New(rand.NewPCG(7, 2))
	l := texts(2, 50000)
	for range 20000 {
		digits := make([]byte, 1+r.IntN(23))
		for i := range digits {
			digits[i] = '0' + byte(r.IntN(10))
		}
		l = append(l, string(digits))
	}
	end := new(big.Int).Lsh(big.NewInt(1), 64)
	for d := int64(-2000); d <= 2000; d++ {
		l = append(l, new(big.Int).Add(end, big.NewInt(d)).String())
	}
	for _, s := range l {
		n, e := plainNumber(s)
		wantNumber(t, s, n, e)
	}
}

// P7.1: Hex, Bytes

func TestBytesThatAreKnown(t *testing.T) {
	for _, c := range []struct {
		b []byte
		s string
	}{
		{nil, "-"},
		{[]byte{}, "-"},
		{[]byte{0}, "00"},
		{[]byte{1}, "01"},
		{[]byte{16}, "10"},
		{[]byte{255}, "ff"},
		{[]byte{0, 255}, "00ff"},
		{[]byte{'-'}, "2d"},
		{[]byte("acme"), "61636d65"},
		{[]byte{0x01, 0x23, 0x45, 0x67, 0x89, 0xab, 0xcd, 0xef}, "0123456789abcdef"},
		{[]byte{0xfe, 0xdc, 0xba, 0x98, 0x76, 0x54, 0x32, 0x10}, "fedcba9876543210"},
		{[]byte{0, 0, 0}, "000000"},
	} {
		if got := name.Hex(c.b); got != c.s {
			t.Errorf("Hex(%v) = %q; want %q", c.b, got, c.s)
		}
		wantBytes(t, c.s, c.b, api.OK)
	}
}

// All 256 bytes, each alone, and together.
func TestBytesOfEachByte(t *testing.T) {
	var all []byte
	for i := range 256 {
		b := byte(i)
		all = append(all, b)
		want := string("0123456789abcdef"[i/16]) + string("0123456789abcdef"[i%16])
		if got := name.Hex([]byte{b}); got != want {
			t.Errorf("Hex(%d) = %q", i, got)
		}
		wantBytes(t, want, []byte{b}, api.OK)
	}
	want := hex.EncodeToString(all)
	if got := name.Hex(all); got != want {
		t.Errorf("Hex of all bytes = %q", got)
	}
	wantBytes(t, want, all, api.OK)
}

func TestBytesThatAreNone(t *testing.T) {
	for _, s := range []string{
		"", "0", "f", "000", "00ff0", "-0", "0-", "--", "---", "----", "-00", "00-", "0-0", "-00-", "-ff0", "+1", "-1",
		"FF", "Ff", "fF", "0A", "A0", "00FF", "ABCDEF", "aB",
		"0g", "g0", "gg", "zz", "xy", "0x", "0x00", "x0", "#0",
		" ", "  ", " -", "- ", "00 ", " 00", "00 ff", "0 0 ", "00\n", "00\r\n", "\t0", "0\x00", "00:ff", "0:", "/0", "`0", "@0", "G0",
	} {
		wantBytes(t, s, nil, api.ErrForm)
	}
	for _, o := range odd() {
		for _, s := range []string{o, o + "0", "0" + o, "00" + o, o + "00", "0" + o + "0", o + o} {
			wantBytes(t, s, nil, api.ErrForm)
		}
	}
}

// Each two bytes: digits, or none.
func TestBytesOfEachTwoBytes(t *testing.T) {
	for i := range 1 << 16 {
		s := string([]byte{byte(i >> 8), byte(i)})
		if b, err := hex.DecodeString(s); err == nil && s == strings.ToLower(s) {
			wantBytes(t, s, b, api.OK)
			wantBytes(t, "5e"+s, []byte{0x5e, b[0]}, api.OK)
		} else {
			wantBytes(t, s, nil, api.ErrForm)
			wantBytes(t, s+"00", nil, api.ErrForm)
			wantBytes(t, "5e"+s, nil, api.ErrForm)
		}
	}
}

// plainBytes is the chapter's words again, by the library.
func plainBytes(s string) ([]byte, api.Errno) {
	if !plainHex.MatchString(s) {
		return nil, api.ErrForm
	}
	b, _ := hex.DecodeString(strings.Trim(s, "-"))
	return b, api.OK
}

func TestBytes(t *testing.T) {
	for _, s := range texts(3, 50000) {
		b, e := plainBytes(s)
		wantBytes(t, s, b, e)
	}
	r := rand.New(rand.NewPCG(7, 3))
	for range 20000 {
		s := make([]byte, r.IntN(12))
		for i := range s {
			s[i] = "0123456789abcdef"[r.IntN(16)]
		}
		if r.IntN(4) == 0 && len(s) > 0 {
			s[r.IntN(len(s))] = byte(r.Uint32())
		}
		b, e := plainBytes(string(s))
		wantBytes(t, string(s), b, e)
	}
}

func TestHexLeavesWhatIsHandedIn(t *testing.T) {
	room := []byte{0, 1, 254, 255, 7, 7, 7}
	if got := name.Hex(room[:4]); got != "0001feff" {
		t.Errorf("Hex = %q", got)
	}
	if !bytes.Equal(room, []byte{0, 1, 254, 255, 7, 7, 7}) {
		t.Errorf("changed: %v", room)
	}
}

func TestBytesAreNewMemory(t *testing.T) {
	const s = "0102030405060708"
	first, _ := name.Bytes(s)
	second, _ := name.Bytes(s)
	clear(first)
	first = append(first, 9)
	if !bytes.Equal(second, []byte{1, 2, 3, 4, 5, 6, 7, 8}) {
		t.Errorf("an answer shares memory with another: %v", second)
	}
	wantBytes(t, s, []byte{1, 2, 3, 4, 5, 6, 7, 8}, api.OK)
}

// P7.2

func TestLinesThatAreKnown(t *testing.T) {
	for _, c := range []struct {
		line string
		want []string
	}{
		{"", nil},
		{"a", []string{"a"}},
		{"word", []string{"word"}},
		{"a b", []string{"a", "b"}},
		{"a bc d", []string{"a", "bc", "d"}},
		{"cap acme 50", []string{"cap", "acme", "50"}},
		{"- . :", []string{"-", ".", ":"}},
		{"! ~ \x7f", []string{"!", "~", "\x7f"}},
		{"A,B;C \"q\" 'q' \\", []string{"A,B;C", "\"q\"", "'q'", "\\"}},
		{"a a a", []string{"a", "a", "a"}},
		{"\u00e4\u00f6 \u20ac \U0001f600", []string{"\u00e4\u00f6", "\u20ac", "\U0001f600"}},
		// Blanks of others are bytes above 32, and so are bytes that are no right UTF-8.
		{"a\u00a0b c\u3000d", []string{"a\u00a0b", "c\u3000d"}},
		{"\u0085 \u2028", []string{"\u0085", "\u2028"}},
		{"\xff \x80\xc3 \xc3", []string{"\xff", "\x80\xc3", "\xc3"}},
		{"\xe2\x82 \xf0\x9f\x98 \xed\xa0\x80", []string{"\xe2\x82", "\xf0\x9f\x98", "\xed\xa0\x80"}},
		{"\ufffd \xef\xbf", []string{"\ufffd", "\xef\xbf"}},
	} {
		wantWords(t, c.line, c.want, api.OK)
	}
}

func TestLinesOfManyWords(t *testing.T) {
	for _, w := range []string{"a", "word", "\xff", "\u20ac"} {
		for _, n := range []int{1, 2, 3, 10, 1000, 100000} {
			words := slices.Repeat([]string{w}, n)
			line := strings.Join(words, " ")
			wantWords(t, line, words, api.OK)
			wantWords(t, line+" ", nil, api.ErrForm)
			wantWords(t, " "+line, nil, api.ErrForm)
			wantWords(t, line+"  "+line, nil, api.ErrForm)
			wantWords(t, line+"\n", nil, api.ErrForm)
		}
	}
	long := strings.Repeat("w", 1<<20)
	wantWords(t, long, []string{long}, api.OK)
	wantWords(t, "a "+long+" b", []string{"a", long, "b"}, api.OK)
	wantWords(t, strings.Repeat(" ", 1<<20), nil, api.ErrForm)
}

func TestLinesThatAreNone(t *testing.T) {
	for _, line := range []string{
		" ", "  ", "   ", " a", "a ", " a ", "  a", "a  ", "a  b", "a   b", "a b ", " a b", "a b  c", "a  b c",
		"\t", "a\tb", "\ta", "a\t", "a\t b", "a \tb", "\n", "a\n", "\na", "a\nb", "a \n", "a\r\n", "a\rb", "\v", "a\fb", "a\x00b", "\x00", "a \x00", "a\x1fb", "\x1f", "a \x1f b",
		"\xff ", " \xff", "\xff  \xff", "\xc3\x1f", "\xc3\n", "\xe2\x82\x00", "\xf0\x9f \x98 ", "\u20ac  \u20ac",
	} {
		wantWords(t, line, nil, api.ErrForm)
	}
}

// Each byte as a word, and ahead of one, within it, and behind it.
func TestLinesByTheirBytes(t *testing.T) {
	for i := range 256 {
		b := string([]byte{byte(i)})
		lines := []string{b, b + "a", "a" + b + "a", "a" + b, "a " + b, b + " a", "a " + b + " a", b + b}
		for _, line := range lines {
			if i > 32 {
				wantWords(t, line, strings.Split(line, " "), api.OK)
			} else if i < 32 || line != "a"+b+"a" {
				wantWords(t, line, nil, api.ErrForm)
			}
		}
	}
	wantWords(t, "a\x20a", []string{"a", "a"}, api.OK)
}

// plainWords is the chapter's words again, by a pattern.
func plainWords(line string) ([]string, api.Errno) {
	if !plainLine.MatchString(line) {
		return nil, api.ErrForm
	}
	return strings.FieldsFunc(line, func(r rune) bool { return r == ' ' }), api.OK
}

func TestLines(t *testing.T) {
	for _, line := range texts(4, 100000) {
		words, e := plainWords(line)
		wantWords(t, line, words, e)
	}
}

func TestWordsAreNewMemory(t *testing.T) {
	first, _ := name.Words("a b c")
	second, _ := name.Words("a b c")
	clear(first)
	if !slices.Equal(second, []string{"a", "b", "c"}) {
		t.Errorf("an answer shares memory with another: %q", second)
	}
}

// P7.3

func TestNumbersComeBack(t *testing.T) {
	back := func(n uint64) {
		s := name.Digits(n)
		if want := new(big.Int).SetUint64(n).String(); s != want {
			t.Errorf("Digits(%d) = %q", n, s)
		}
		wantNumber(t, s, n, api.OK)
	}
	for n := range uint64(3000) {
		back(n)
		back(math.MaxUint64 - n)
	}
	for bit := range 64 {
		back(1<<bit - 1)
		back(1 << bit)
		back(1<<bit + 1)
	}
	for ten := uint64(1); ten < math.MaxUint64/10; ten *= 10 {
		back(ten - 1)
		back(ten)
		back(10*ten - 1)
	}
	r := rand.New(rand.NewPCG(7, 4))
	for range 20000 {
		back(r.Uint64() >> r.UintN(64))
	}
}

func TestBytesComeBack(t *testing.T) {
	r := rand.New(rand.NewPCG(7, 5))
	for n := range 600 {
		b := make([]byte, n)
		for i := range b {
			b[i] = byte(r.Uint32())
		}
		s := name.Hex(b)
		if n > 0 && s != hex.EncodeToString(b) {
			t.Errorf("Hex(%x) = %q", b, s)
		}
		wantBytes(t, s, b, api.OK)
		wantWords(t, s, []string{s}, api.OK)
	}
	b := bytes.Repeat([]byte{0, 0x5a, 255}, 1<<18)
	wantBytes(t, name.Hex(b), b, api.OK)
}

// Digits that are right are the digits of what they are read as.
func TestDigitsComeBack(t *testing.T) {
	for _, s := range texts(5, 50000) {
		if n, e := name.Number(s); e == api.OK && name.Digits(n) != s {
			t.Errorf("Number(%q) = %d", s, n)
		}
		if b, e := name.Bytes(s); e == api.OK && name.Hex(b) != s {
			t.Errorf("Bytes(%q) = %x", s, b)
		}
	}
}

func TestATenantsNameIsATargetsAndAWord(t *testing.T) {
	l := texts(6, 100000)
	for i := range 1 << 16 {
		l = append(l, string([]byte{byte(i >> 8), byte(i)}))
	}
	for n := range 30 {
		l = append(l, strings.Repeat("a", n), strings.Repeat("0", n), "z"+strings.Repeat("-", n))
	}
	tenants, targets := 0, 0
	for _, s := range l {
		if name.Tenant(s) {
			tenants++
			wantTarget(t, s, true)
		}
		if name.Target(s) {
			targets++
			wantWords(t, s, []string{s}, api.OK)
			wantWords(t, s+" "+s, []string{s, s}, api.OK)
		}
	}
	if tenants < 1000 || targets < 2*tenants {
		t.Errorf("%d tenants' names, %d targets'", tenants, targets)
	}
}

func FuzzName(f *testing.F) {
	for _, s := range append(texts(7, 500), odd()...) {
		f.Add(s)
	}
	for _, s := range []string{"", "-", "0", "18446744073709551615", "18446744073709551616", "abcdefghijklmnop", "9.example:80", "00ff", "a b c"} {
		f.Add(s)
	}
	f.Fuzz(func(t *testing.T, s string) {
		wantTenant(t, s, plainTenant.MatchString(s))
		wantTarget(t, s, plainTarget.MatchString(s))
		n, e := plainNumber(s)
		wantNumber(t, s, n, e)
		b, e := plainBytes(s)
		wantBytes(t, s, b, e)
		words, e := plainWords(s)
		wantWords(t, s, words, e)
		wantBytes(t, name.Hex([]byte(s)), []byte(s), api.OK)
	})
}
