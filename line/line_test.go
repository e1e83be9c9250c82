package line_test

import (
	"bytes"
	"encoding/hex"
	"math"
	"math/big"
	"math/rand/v2"
	"regexp"
	"slices"
	"strings"
	"testing"
	"unicode/utf8"

	"taximeter/api"
	"taximeter/line"
	"taximeter/name"
)

// most is the greatest number of sign s.
const most = 1<<31 - 1

var (
	longTenant = "a" + strings.Repeat("-", api.MaxName-1)
	longTarget = "9" + strings.Repeat(".", api.MaxTarget-1)
)

func same(a, b line.Field) bool {
	return a.Text == b.Text && a.N == b.N && bytes.Equal(a.Data, b.Data)
}

func wantRead(t *testing.T, s, word, pattern string, want []line.Field, err api.Errno) {
	t.Helper()
	got, e := line.Read(s, word, pattern)
	if !slices.EqualFunc(got, want, same) || e != err || err != api.OK && got != nil {
		t.Errorf("Read(%q, %q, %q) = %v, %d; want %v, %d", s, word, pattern, got, e, want, err)
	}
}

func wantNoRead(t *testing.T, s, word, pattern string, err api.Errno) {
	t.Helper()
	wantRead(t, s, word, pattern, nil, err)
}

func wantWrite(t *testing.T, word, pattern string, l []line.Field, want string, err api.Errno) {
	t.Helper()
	if got, e := line.Write(word, pattern, l); got != want || e != err {
		t.Errorf("Write(%q, %q, %v) = %q, %d; want %q, %d", word, pattern, l, got, e, want, err)
	}
}

func wantNoWrite(t *testing.T, word, pattern string, l []line.Field, err api.Errno) {
	t.Helper()
	wantWrite(t, word, pattern, l, "", err)
}

// wantBoth holds a line, and fields that have what their signs name alone, against each other, both ways.
func wantBoth(t *testing.T, s, word, pattern string, l []line.Field) {
	t.Helper()
	wantRead(t, s, word, pattern, l, api.OK)
	wantWrite(t, word, pattern, l, s, api.OK)
}

func wantWord(t *testing.T, s, want string) {
	t.Helper()
	if got := line.Word(s); got != want {
		t.Errorf("Word(%q) = %q; want %q", s, got, want)
	}
}

// odd are texts that are no sign, and of no ASCII: runes whose lowest byte is a sign's, others' letters, and bytes that are no right UTF-8.
func odd() []string {
	l := []string{
		"\u0174", "\u0168", "\u016e", "\u0162", "\u0173", "\U00010074", "\U00010073", "\uff54", "\uff53", "\uff4e",
		"\u00e9", "\u00a0", "\u3000", "\ufffd", "\ufeff", "\U0001f600",
		"\x80", "\xc3", "\xe2\x82", "\xf0\x9f\x98", "\xed\xa0\x80", "\xc1\xb4", "\xff", "\xf4", "\xee",
	}
	return l
}

// P8.1: Read

func TestLinesThatAreKnown(t *testing.T) {
	for _, c := range []struct {
		s, word, pattern string
		want             []line.Field
	}{
		{"commit", "commit", "", nil},
		{"w", "w", "", nil},
		{"-", "-", "", nil},
		{"cap acme 100", "cap", "tn", []line.Field{{Text: "acme"}, {N: 100}}},
		{"x acme 7 00ff a:1", "x", "tnbh", []line.Field{{Text: "acme"}, {N: 7}, {Data: []byte{0, 255}}, {Text: "a:1"}}},
		{"connect 0 0102030405060708", "connect", "sb", []line.Field{{}, {Data: []byte{1, 2, 3, 4, 5, 6, 7, 8}}}},
		{"close acme", "close", "t", []line.Field{{Text: "acme"}}},
		{"open 9.example:80", "open", "h", []line.Field{{Text: "9.example:80"}}},
		{"go -", "go", "h", []line.Field{{Text: "-"}}},
		{"go -", "go", "b", []line.Field{{}}},
		{"go 00", "go", "b", []line.Field{{Data: []byte{0}}}},
		{"go 00", "go", "h", []line.Field{{Text: "00"}}},
		{"go 10", "go", "h", []line.Field{{Text: "10"}}},
		{"go 10", "go", "n", []line.Field{{N: 10}}},
		{"go 10", "go", "s", []line.Field{{N: 10}}},
		{"go 10", "go", "b", []line.Field{{Data: []byte{16}}}},
		{"go ab", "go", "t", []line.Field{{Text: "ab"}}},
		{"go ab", "go", "b", []line.Field{{Data: []byte{0xab}}}},
		{"two a b", "two", "tt", []line.Field{{Text: "a"}, {Text: "b"}}},
		{"two 1.a 2:b", "two", "hh", []line.Field{{Text: "1.a"}, {Text: "2:b"}}},
		{"two 1 2", "two", "nn", []line.Field{{N: 1}, {N: 2}}},
		{"two 1 2", "two", "ss", []line.Field{{N: 1}, {N: 2}}},
		{"two 01 -", "two", "bb", []line.Field{{Data: []byte{1}}, {}}},
		{"three 1 1 1", "three", "nsh", []line.Field{{N: 1}, {N: 1}, {Text: "1"}}},
		{"statement acme 1 2 3 4 5", "statement", "tnnnnn", []line.Field{{Text: "acme"}, {N: 1}, {N: 2}, {N: 3}, {N: 4}, {N: 5}}},
		{"all t h 1 bb 2", "all", "thnbs", []line.Field{{Text: "t"}, {Text: "h"}, {N: 1}, {Data: []byte{0xbb}}, {N: 2}}},
		{"all 2 bb 1 h t", "all", "sbnht", []line.Field{{N: 2}, {Data: []byte{0xbb}}, {N: 1}, {Text: "h"}, {Text: "t"}}},
		{"all a b 0 - 0 c d 1 - 1", "all", "thnbsthnbs", []line.Field{{Text: "a"}, {Text: "b"}, {}, {}, {}, {Text: "c"}, {Text: "d"}, {N: 1}, {}, {N: 1}}},
		// Any word may come first.
		{"7 7", "7", "n", []line.Field{{N: 7}}},
		{"TAP 7", "TAP", "n", []line.Field{{N: 7}}},
		{"#! 7", "#!", "s", []line.Field{{N: 7}}},
		{"\u00e4\u3000\x7f\xff 7", "\u00e4\u3000\x7f\xff", "s", []line.Field{{N: 7}}},
	} {
		wantBoth(t, c.s, c.word, c.pattern, c.want)
	}
}

// Each sign alone: the words that are right ones, and those that are wrong.
func TestSignsByTheirWords(t *testing.T) {
	two31, two64 := uint64(1<<31), uint64(math.MaxUint64)
	for _, c := range []struct {
		word          string
		t, h, n, b, s bool
		num           uint64
		data          []byte
	}{
		{word: "a", t: true, h: true},
		{word: "acme-1", t: true, h: true},
		{word: longTenant, t: true, h: true},
		{word: longTenant + "a", h: true},
		{word: longTarget, h: true},
		{word: longTarget + "."},
		{word: "1a", h: true, b: true, data: []byte{0x1a}},
		{word: "a1", t: true, h: true, b: true, data: []byte{0xa1}},
		{word: "a.1", h: true},
		{word: "a:1", h: true},
		{word: ".a"},
		{word: ":1"},
		{word: "-", h: true, b: true},
		{word: "--", h: true},
		{word: "-1", h: true},
		{word: "+1"},
		{word: "A"},
		{word: "AB"},
		{word: "a_b"},
		{word: "\u00e4"},
		{word: "a\xff"},
		{word: "\u0661"},
		{word: "0", h: true, n: true, s: true},
		{word: "1", h: true, n: true, s: true, num: 1},
		{word: "00", h: true, b: true, data: []byte{0}},
		{word: "01", h: true, b: true, data: []byte{1}},
		{word: "007", h: true},
		{word: "1.0", h: true},
		{word: "1e3", h: true},
		{word: "0x1", h: true},
		{word: "ff", t: true, h: true, b: true, data: []byte{255}},
		{word: "fF"},
		{word: "00ff00", h: true, b: true, data: []byte{0, 255, 0}},
		{word: "00ff0", h: true},
		{word: "fg", t: true, h: true},
		{word: "2147483646", h: true, n: true, s: true, b: true, num: two31 - 2, data: []byte{0x21, 0x47, 0x48, 0x36, 0x46}},
		{word: "2147483647", h: true, n: true, s: true, b: true, num: two31 - 1, data: []byte{0x21, 0x47, 0x48, 0x36, 0x47}},
		{word: "18446744073709551614", h: true, n: true, b: true, num: two64 - 1, data: []byte{0x18, 0x44, 0x67, 0x44, 0x07, 0x37, 0x09, 0x55, 0x16, 0x14}},
	} {
		check := func(sign string, is bool, want line.Field) {
			t.Helper()
			if is {
				wantBoth(t, "w "+c.word, "w", sign, []line.Field{want})
			} else if sign != "s" || !c.n {
				wantNoRead(t, "w "+c.word, "w", sign, api.ErrForm)
			}
		}
		check("t", c.t, line.Field{Text: c.word})
		check("h", c.h, line.Field{Text: c.word})
		check("n", c.n, line.Field{N: c.num})
		check("b", c.b, line.Field{Data: c.data})
		check("s", c.s, line.Field{N: c.num})
	}
}

func TestNumbersAtTheirEnds(t *testing.T) {
	for _, c := range []struct {
		digits string
		n      uint64
		number api.Errno
		small  api.Errno
	}{
		{"0", 0, api.OK, api.OK},
		{"1", 1, api.OK, api.OK},
		{"65535", 65535, api.OK, api.OK},
		{"65536", 65536, api.OK, api.OK},
		{"2147483646", most - 1, api.OK, api.OK},
		{"2147483647", most, api.OK, api.OK},
		{"2147483648", most + 1, api.OK, api.ErrRange},
		{"2147483649", most + 2, api.OK, api.ErrRange},
		{"4294967295", 1<<32 - 1, api.OK, api.ErrRange},
		{"4294967296", 1 << 32, api.OK, api.ErrRange},
		{"4294967297", 1<<32 + 1, api.OK, api.ErrRange}, // 1, of its lower 32 bits
		{"9223372036854775807", 1<<63 - 1, api.OK, api.ErrRange},
		{"9223372036854775808", 1 << 63, api.OK, api.ErrRange},
		{"9223372036854775809", 1<<63 + 1, api.OK, api.ErrRange},
		{"18446744073709551614", math.MaxUint64 - 1, api.OK, api.ErrRange},
		{"18446744073709551615", math.MaxUint64, api.OK, api.ErrRange},
		{"18446744073709551616", 0, api.ErrRange, api.ErrRange},
		{"18446744073709551617", 0, api.ErrRange, api.ErrRange},
		{"100000000000000000000", 0, api.ErrRange, api.ErrRange},
		{"018446744073709551616", 0, api.ErrForm, api.ErrForm},
		{"02147483648", 0, api.ErrForm, api.ErrForm},
		{"2147483648a", 0, api.ErrForm, api.ErrForm},
		{"-2147483649", 0, api.ErrForm, api.ErrForm},
		{"00", 0, api.ErrForm, api.ErrForm},
		{"07", 0, api.ErrForm, api.ErrForm},
	} {
		check := func(sign string, err api.Errno) {
			t.Helper()
			if err == api.OK {
				wantBoth(t, "w "+c.digits, "w", sign, []line.Field{{N: c.n}})
				wantBoth(t, "w a "+c.digits+" -", "w", "t"+sign+"b", []line.Field{{Text: "a"}, {N: c.n}, {}})
			} else {
				wantNoRead(t, "w "+c.digits, "w", sign, err)
				wantNoRead(t, "w a "+c.digits+" -", "w", "t"+sign+"b", err)
			}
		}
		check("n", c.number)
		check("s", c.small)
		if c.number == api.OK && c.small != api.OK {
			wantNoWrite(t, "w", "s", []line.Field{{N: c.n}}, c.small)
		}
	}
	wantNoRead(t, "w "+strings.Repeat("9", 1<<16), "w", "n", api.ErrRange)
	wantNoRead(t, "w "+strings.Repeat("9", 1<<16), "w", "s", api.ErrRange)
}

func TestBytesOfEachCount(t *testing.T) {
	wantBoth(t, "w -", "w", "b", []line.Field{{}})
	for i := range 256 {
		b := []byte{byte(i)}
		wantBoth(t, "w "+hex.EncodeToString(b), "w", "b", []line.Field{{Data: b}})
	}
	for n := 1; n < 300; n++ {
		b := make([]byte, n)
		for i := range b {
			b[i] = byte(n + 7*i)
		}
		s := hex.EncodeToString(b)
		wantBoth(t, "w "+s, "w", "b", []line.Field{{Data: b}})
		wantNoRead(t, "w "+s+"0", "w", "b", api.ErrForm)
		wantNoRead(t, "w "+s[1:], "w", "b", api.ErrForm)
		wantNoRead(t, "w -"+s, "w", "b", api.ErrForm)
		wantNoRead(t, "w "+s+"-", "w", "b", api.ErrForm)
	}
	b := bytes.Repeat([]byte{0, 0x5a, 255}, 1<<16)
	wantBoth(t, "w "+hex.EncodeToString(b), "w", "b", []line.Field{{Data: b}})
}

func TestPatternsOfManySigns(t *testing.T) {
	for _, n := range []int{1, 2, 5, 100, 10000} {
		for sign, f := range map[string]line.Field{"t": {Text: "acme"}, "h": {Text: "1.a:1"}, "n": {N: math.MaxUint64}, "b": {Data: []byte{171}}, "s": {N: most}} {
			w := f.Text
			if f.N > 0 {
				w = name.Digits(f.N)
			} else if f.Data != nil {
				w = "ab"
			}
			pattern, s := strings.Repeat(sign, n), "w"+strings.Repeat(" "+w, n)
			l := slices.Repeat([]line.Field{f}, n)
			wantBoth(t, s, "w", pattern, l)
			wantNoRead(t, s+" "+w, "w", pattern, api.ErrForm)
			wantNoRead(t, s, "w", pattern+sign, api.ErrForm)
			wantNoRead(t, s, "w", pattern[1:], api.ErrForm)
			wantNoRead(t, s, "w", pattern+"x", api.ErrForm)
			wantNoWrite(t, "w", pattern, append(l, f), api.ErrForm)
			wantNoWrite(t, "w", pattern, l[1:], api.ErrForm)
		}
	}
}

// The only signs are t, h, n, b and s, whatever else there is.
func TestPatternsWithAnotherSign(t *testing.T) {
	for i := range 256 {
		sign := string([]byte{byte(i)})
		if strings.Contains("thnbs", sign) {
			continue
		}
		for _, s := range []string{"w a", "w 1", "w -", "w 00", "w " + sign, "w", "", "v a", "w a b", "w  a", "w 18446744073709551616", "w A"} {
			wantNoRead(t, s, "w", sign, api.ErrForm)
		}
		for _, f := range []line.Field{{}, {Text: "a"}, {N: 1}, {Data: []byte{1}}, {Text: "a", N: 1, Data: []byte{1}}, {N: math.MaxUint64}} {
			wantNoWrite(t, "w", sign, []line.Field{f}, api.ErrForm)
			wantNoWrite(t, "w", "t"+sign, []line.Field{{Text: "a"}, f}, api.ErrForm)
			wantNoWrite(t, "w", sign+"s", []line.Field{f, {N: most + 1}}, api.ErrForm)
		}
		wantNoWrite(t, "w", sign, nil, api.ErrForm)
		// It is told ahead of a number that may not be, on whichever side of it.
		wantNoRead(t, "w 2147483648 a", "w", "s"+sign, api.ErrForm)
		wantNoRead(t, "w a 2147483648", "w", sign+"s", api.ErrForm)
		wantNoRead(t, "w 2147483648 a 1", "w", "s"+sign+"n", api.ErrForm)
		wantNoRead(t, "w 18446744073709551616 1 a", "w", "nn"+sign, api.ErrForm)
		wantNoRead(t, "w 18446744073709551616", "w", "n"+sign, api.ErrForm)
	}
}

func TestPatternsThatAreNoASCII(t *testing.T) {
	l := odd()
	for r := rune(128); r <= utf8.MaxRune; r += 1 + r/64 {
		l = append(l, string(r))
	}
	for lowest := range rune(256) { // each page of runes has some whose lowest byte is a sign's
		for _, sign := range "thnbs" {
			l = append(l, string(lowest<<8+256+sign))
		}
	}
	for _, sign := range l {
		for _, s := range []string{"w", "w 1", "w 1 1", "w 1 1 1", "w 1 1 1 1", "w 1 1 1 1 1", "w a", "w " + sign, "", "v 1", "w 2147483648", "w 2147483648 1 1 1 1 1"} {
			wantNoRead(t, s, "w", sign, api.ErrForm)
			wantNoRead(t, s, "w", "s"+sign, api.ErrForm)
			wantNoRead(t, s, "w", sign+"s", api.ErrForm)
		}
		for n := range 6 {
			fields := slices.Repeat([]line.Field{{Text: "a", N: most + 1, Data: []byte{1}}}, n)
			wantNoWrite(t, "w", sign, fields, api.ErrForm)
			wantNoWrite(t, "w", "s"+sign, fields, api.ErrForm)
			wantNoWrite(t, "w", sign+"s", fields, api.ErrForm)
		}
	}
}

func TestLinesThatDoNotFit(t *testing.T) {
	for _, c := range []struct{ s, word, pattern string }{
		{"", "w", ""},
		{"", "w", "n"},
		{"", "", ""},
		{"", "", "n"},
		{"", " ", ""},
		// another first word
		{"v", "w", ""},
		{"v 1", "w", "n"},
		{"w", "", ""},
		{"w 1", "", "n"},
		{"w1 1", "w", "n"},
		{"w 1", "w1", "n"},
		{"W 1", "w", "n"},
		{"1 w", "w", "n"},
		{"1", "w", "n"},
		{"1", "", "n"},
		{"w 1", "1", "n"},
		{"\u00e9", "e\u0301", ""},
		{"\xff", "\ufffd", ""},
		// a word that has a blank is none
		{"w 1", "w 1", ""},
		{"w 1", "w ", "n"},
		{"w 1", " w", "n"},
		{"w 1", " ", "n"},
		{"w x 1", "w x", "n"},
		{"w x 1", "w x", ""},
		{"w x 1", "w x", "tn"},
		{"w x 1", "w x 1", ""},
		{"w 1", "w\t", "n"},
		// too few words, and too many
		{"w", "w", "n"},
		{"w", "w", "thnbs"},
		{"w 1", "w", ""},
		{"w 1", "w", "nn"},
		{"w 1 2", "w", "n"},
		{"w 1 2 3", "w", "nn"},
		{"w a 1", "w", "tns"},
		{"w a 1 - 1", "w", "tnb"},
		// what is no line
		{" w 1", "w", "n"},
		{"w 1 ", "w", "n"},
		{"w  1", "w", "n"},
		{"w  1", "w", "nn"},
		{"w  1", "w", "tn"},
		{"w  1", "w ", "n"},
		{" w", "w", ""},
		{" w", "", "t"},
		{" 1", "", "n"},
		{"w ", "w", ""},
		{"w ", "w", "t"},
		{"w ", "w", "b"},
		{" ", "", ""},
		{" ", " ", ""},
		{" ", "", "b"},
		{"w 1  2", "w", "nn"},
		{"w\t1", "w", "n"},
		{"w 1\n", "w", "n"},
		{"w 1\r\n", "w", "n"},
		{"\nw 1", "w", "n"},
		{"w 1\x00", "w", "n"},
		{"w\n", "w", ""},
		{"w\n", "w\n", ""},
		{"w\x1f 1", "w\x1f", "n"},
		{"w\u00a01", "w", "n"},
		// words that are not as their sign says
		{"w 1", "w", "t"},
		{"w .", "w", "h"},
		{"w a", "w", "n"},
		{"w a", "w", "s"},
		{"w a", "w", "b"},
		{"w 01", "w", "n"},
		{"w 01", "w", "s"},
		{"w -", "w", "n"},
		{"w -", "w", "s"},
		{"w -", "w", "t"},
		{"w 1 a", "w", "tn"},
		{"w a 1 -", "w", "tbn"},
		{"w a 1", "w", "nt"},
	} {
		wantNoRead(t, c.s, c.word, c.pattern, api.ErrForm)
	}
}

// What is no line, has another word, or another number of words, is told ahead of each word.
func TestWholeLinesAreToldFirst(t *testing.T) {
	for _, c := range []struct{ s, word, pattern string }{
		{"v 2147483648", "w", "s"},
		{"w 2147483648", "", "s"},
		{"w 2147483648", "w 2147483648", "s"},
		{"w 2147483648", "w", "ss"},
		{"w 2147483648 1", "w", "s"},
		{"w 2147483648 ", "w", "s"},
		{" w 2147483648", "w", "s"},
		{"w  2147483648", "w", "s"},
		{"w 2147483648  1", "w", "ss"},
		{"w 2147483648\n", "w", "s"},
		{"w 2147483648 1\n", "w", "ss"},
		{"w 18446744073709551616", "w", ""},
		{"w 18446744073709551616 1", "w", "n"},
		{"w 18446744073709551616 1", "w", "nnn"},
		{"v 18446744073709551616 1", "w", "nn"},
	} {
		wantNoRead(t, c.s, c.word, c.pattern, api.ErrForm)
	}
}

// Of several words that are wrong the first one is told.
func TestTheFirstWrongWordIsTold(t *testing.T) {
	form := map[string][]string{
		"t": {"A", "1", "-", longTenant + "-"},
		"h": {"A", ".", longTarget + "."},
		"n": {"a", "01", "-1", "018446744073709551616"},
		"b": {"a", "000", "FF"},
		"s": {"a", "00", "+1", "02147483648"},
	}
	above := map[string][]string{
		"n": {"18446744073709551616", "99999999999999999999"},
		"s": {"2147483648", "18446744073709551615", "18446744073709551616"},
	}
	right := map[string]string{"t": "a", "h": "a", "n": "1", "b": "01", "s": "1"}
	for formSign, bad := range form {
		for aboveSign, great := range above {
			for _, b := range bad {
				for _, g := range great {
					wantNoRead(t, "w "+b+" "+g, "w", formSign+aboveSign, api.ErrForm)
					wantNoRead(t, "w "+g+" "+b, "w", aboveSign+formSign, api.ErrRange)
					wantNoRead(t, "w "+g+" "+g+" "+b, "w", aboveSign+aboveSign+formSign, api.ErrRange)
					for ahead, word := range right {
						wantNoRead(t, "w "+word+" "+b+" "+word+" "+g, "w", ahead+formSign+ahead+aboveSign, api.ErrForm)
						wantNoRead(t, "w "+word+" "+g+" "+word+" "+b, "w", ahead+aboveSign+ahead+formSign, api.ErrRange)
						wantNoRead(t, "w "+b+" "+word, "w", formSign+ahead, api.ErrForm)
						wantNoRead(t, "w "+g+" "+word, "w", aboveSign+ahead, api.ErrRange)
					}
				}
			}
		}
	}
}

// The chapter's words again, sign by sign, as patterns.
var (
	plainPattern = regexp.MustCompile(`\A[thnbs]*\z`)
	plainLine    = regexp.MustCompile(`\A[^\x00-\x20]+( [^\x00-\x20]+)*\z`)
	plainTenant  = regexp.MustCompile(`\A[a-z][a-z0-9-]{0,15}\z`)
	plainTarget  = regexp.MustCompile(`\A[a-z0-9-][a-z0-9.:-]{0,23}\z`)
	plainDigits  = regexp.MustCompile(`\A(0|[1-9][0-9]*)\z`)
	plainHex     = regexp.MustCompile(`\A(-|([0-9a-f][0-9a-f])+)\z`)
)

func plainField(sign byte, w string) (line.Field, api.Errno) {
	by := map[byte]*regexp.Regexp{'t': plainTenant, 'h': plainTarget, 'n': plainDigits, 'b': plainHex, 's': plainDigits}
	if !by[sign].MatchString(w) {
		return line.Field{}, api.ErrForm
	}
	n, _ := new(big.Int).SetString(w, 10)
	switch {
	case sign == 't' || sign == 'h':
		return line.Field{Text: w}, api.OK
	case sign == 'b':
		b, _ := hex.DecodeString(strings.Trim(w, "-"))
		return line.Field{Data: b}, api.OK
	case n.BitLen() > 64 || n.BitLen() > 31 && sign == 's':
		return line.Field{}, api.ErrRange
	}
	return line.Field{N: n.Uint64()}, api.OK
}

// plainRead is the chapter's words again.
func plainRead(s, word, pattern string) ([]line.Field, api.Errno) {
	if !plainPattern.MatchString(pattern) || !plainLine.MatchString(s) {
		return nil, api.ErrForm
	}
	words := strings.Split(s, " ")
	if words[0] != word || len(words)-1 != len(pattern) {
		return nil, api.ErrForm
	}
	var l []line.Field
	for i, w := range words[1:] {
		f, err := plainField(pattern[i], w)
		if err != api.OK {
			return nil, err
		}
		l = append(l, f)
	}
	return l, api.OK
}

// plainWrite is the chapter's words again: the line, by its own words; and what is told of it.
func plainWrite(word, pattern string, l []line.Field) (string, api.Errno) {
	if len(l) != len(pattern) || !plainPattern.MatchString(pattern) {
		return "", api.ErrForm
	}
	s := word
	for i, f := range l {
		by := map[byte]string{'t': f.Text, 'h': f.Text, 'n': new(big.Int).SetUint64(f.N).String(), 's': new(big.Int).SetUint64(f.N).String(), 'b': hex.EncodeToString(f.Data)}
		if len(f.Data) == 0 {
			by['b'] = "-"
		}
		s += " " + by[pattern[i]]
	}
	if _, err := plainRead(s, word, pattern); err != api.OK {
		return "", err
	}
	return s, api.OK
}

func pick[T any](r *rand.Rand, l ...T) T {
	return l[r.IntN(len(l))]
}

// someWord is one that a sign may take, more often than not.
func someWord(r *rand.Rand, sign byte) string {
	if r.IntN(30) == 0 {
		return pick(r, "", " ", "a b", "A", "01", "-1", "a\n", "\u00e4", "\xff", ".", "000", "18446744073709551616", "2147483648", longTenant+"a", longTarget+"a", "1", "a", "-")
	}
	if (sign == 'n' || sign == 's') && r.IntN(30) == 0 {
		return pick(r, "2147483648", "4294967296", "18446744073709551615", "18446744073709551616", "99999999999999999999")
	}
	switch sign {
	case 't':
		return pick(r, "a", "b-1", "acme", longTenant, "ff", "zoe")
	case 'h':
		return pick(r, "a", "1.2.3.4:5", "-", "00", "10", longTarget, longTenant+"a")
	case 'b':
		return pick(r, "-", "00", "ff", "2d", "0001feff", strings.Repeat("5a", 40))
	case 's':
		return pick(r, "0", "1", "10", "2147483647", "65536")
	}
	return pick(r, "0", "1", "10", "2147483648", "18446744073709551615", "4294967296")
}

func somePattern(r *rand.Rand) string {
	var p []byte
	for range r.IntN(6) {
		p = append(p, "thnbs"[r.IntN(5)])
	}
	if r.IntN(15) == 0 {
		return string(p) + pick(r, "x", " ", "T", "\u0174", "\xff", "\x00") + pick(r, "", "n", "t")
	}
	return string(p)
}

func TestRead(t *testing.T) {
	r := rand.New(rand.NewPCG(8, 1))
	read, above, none := 0, 0, 0
	for range 200000 {
		pattern := somePattern(r)
		word := pick(r, "w", "w", "w", "cap", "\xff", "7", "", "w x")
		s := word
		for i := range len(pattern) {
			s += " " + someWord(r, pattern[i])
		}
		switch r.IntN(20) {
		case 0:
			s += pick(r, " ", "  ", " 1", " a", "\n", "x", "\x00")
		case 1:
			s = pick(r, " ", "w ", "x", "\t") + s
		case 2:
			s = s[:r.IntN(len(s)+1)]
		case 3:
			word = pick(r, "w", "v", "", "cap", " ")
		case 4:
			pattern = somePattern(r)
		}
		want, err := plainRead(s, word, pattern)
		wantRead(t, s, word, pattern, want, err)
		switch err {
		case api.OK:
			read++
		case api.ErrRange:
			above++
		default:
			none++
		}
	}
	if read < 50000 || above < 1000 || none < 50000 {
		t.Errorf("%d lines read, %d above a range, %d of no form", read, above, none)
	}
}

// P8.1: Write

func TestFieldsThatAreWrong(t *testing.T) {
	for _, c := range []struct {
		word, pattern string
		l             []line.Field
		err           api.Errno
	}{
		// fewer and more fields than signs
		{"w", "", []line.Field{{}}, api.ErrForm},
		{"w", "", []line.Field{{Text: "a"}}, api.ErrForm},
		{"w", "t", nil, api.ErrForm},
		{"w", "n", nil, api.ErrForm},
		{"w", "b", nil, api.ErrForm},
		{"w", "n", []line.Field{{}, {}}, api.ErrForm},
		{"w", "nn", []line.Field{{}}, api.ErrForm},
		{"w", "thnbs", []line.Field{{Text: "a"}, {Text: "b"}, {}, {}}, api.ErrForm},
		{"w", "thnb", []line.Field{{Text: "a"}, {Text: "b"}, {}, {}, {}}, api.ErrForm},
		{"w", "s", []line.Field{{N: most + 1}, {}}, api.ErrForm},
		{"w", "ss", []line.Field{{N: most + 1}}, api.ErrForm},
		{"w", "tt", []line.Field{{Text: "a b"}}, api.ErrForm}, // as many words, but not as many fields
		{"w", "t", []line.Field{{Text: "a"}, {}}, api.ErrForm},
		// a text that has a blank, is empty, or is no name
		{"w", "t", []line.Field{{}}, api.ErrForm},
		{"w", "h", []line.Field{{}}, api.ErrForm},
		{"w", "t", []line.Field{{Text: "a b"}}, api.ErrForm},
		{"w", "h", []line.Field{{Text: "a b"}}, api.ErrForm},
		{"w", "t", []line.Field{{Text: " a"}}, api.ErrForm},
		{"w", "t", []line.Field{{Text: "a "}}, api.ErrForm},
		{"w", "t", []line.Field{{Text: " "}}, api.ErrForm},
		{"w", "tt", []line.Field{{Text: "a b"}, {}}, api.ErrForm},
		{"w", "tt", []line.Field{{}, {Text: "a b"}}, api.ErrForm},
		{"w", "ttt", []line.Field{{Text: "a b"}, {}, {Text: "c"}}, api.ErrForm},
		{"w", "tt", []line.Field{{Text: "a "}, {Text: "b"}}, api.ErrForm},
		{"w", "t", []line.Field{{Text: "a\n"}}, api.ErrForm},
		{"w", "t", []line.Field{{Text: "a\tb"}}, api.ErrForm},
		{"w", "t", []line.Field{{Text: "a\u00a0b"}}, api.ErrForm},
		{"w", "t", []line.Field{{Text: "A"}}, api.ErrForm},
		{"w", "t", []line.Field{{Text: "1a"}}, api.ErrForm},
		{"w", "t", []line.Field{{Text: "a:1"}}, api.ErrForm},
		{"w", "h", []line.Field{{Text: ".a"}}, api.ErrForm},
		{"w", "h", []line.Field{{Text: "a/"}}, api.ErrForm},
		{"w", "t", []line.Field{{Text: longTenant + "a"}}, api.ErrForm},
		{"w", "h", []line.Field{{Text: longTarget + "a"}}, api.ErrForm},
		{"w", "t", []line.Field{{N: 7}}, api.ErrForm},
		{"w", "t", []line.Field{{Data: []byte("acme")}}, api.ErrForm},
		// numbers above their range
		{"w", "s", []line.Field{{N: most + 1}}, api.ErrRange},
		{"w", "s", []line.Field{{N: 1 << 32}}, api.ErrRange},
		{"w", "s", []line.Field{{N: 1<<32 + 1}}, api.ErrRange},
		{"w", "s", []line.Field{{N: math.MaxUint64}}, api.ErrRange},
		{"w", "ns", []line.Field{{N: math.MaxUint64}, {N: most + 1}}, api.ErrRange},
		// which is told
		{"w", "st", []line.Field{{N: most + 1}, {Text: "A"}}, api.ErrRange},
		{"w", "ts", []line.Field{{Text: "A"}, {N: most + 1}}, api.ErrForm},
		{"w", "sh", []line.Field{{N: most + 1}, {Text: longTarget + "."}}, api.ErrRange},
		{"w", "hs", []line.Field{{Text: longTarget + "."}, {N: most + 1}}, api.ErrForm},
		{"w", "st", []line.Field{{N: most + 1}, {}}, api.ErrForm},
		{"w", "st", []line.Field{{N: most + 1}, {Text: "a b"}}, api.ErrForm},
		{"w", "st", []line.Field{{N: most + 1}, {Text: "a\n"}}, api.ErrForm},
		{"w", "sx", []line.Field{{N: most + 1}, {}}, api.ErrForm},
		// a word that is none
		{"", "", nil, api.ErrForm},
		{"", "n", []line.Field{{N: 1}}, api.ErrForm},
		{"", "s", []line.Field{{N: most + 1}}, api.ErrForm},
		{" ", "", nil, api.ErrForm},
		{" ", "n", []line.Field{{N: 1}}, api.ErrForm},
		{"w x", "", nil, api.ErrForm},
		{"w x", "n", []line.Field{{N: 1}}, api.ErrForm},
		{"w x", "s", []line.Field{{N: most + 1}}, api.ErrForm},
		{"w x", "tn", []line.Field{{Text: "a"}, {N: 1}}, api.ErrForm},
		{" w", "", nil, api.ErrForm},
		{"w ", "", nil, api.ErrForm},
		{"w ", "n", []line.Field{{N: 1}}, api.ErrForm},
		{"w\n", "", nil, api.ErrForm},
		{"w\x1f", "n", []line.Field{{N: 1}}, api.ErrForm},
		{"\x00", "s", []line.Field{{N: most + 1}}, api.ErrForm},
	} {
		wantNoWrite(t, c.word, c.pattern, c.l, c.err)
	}
}

// What a field's sign does not name is left out, whatever it is.
func TestFieldsThatHaveMore(t *testing.T) {
	for _, c := range []struct {
		pattern string
		f       line.Field
		want    string
	}{
		{"t", line.Field{Text: "acme", N: 7, Data: []byte{1}}, "w acme"},
		{"h", line.Field{Text: "a:1", N: math.MaxUint64, Data: []byte{1}}, "w a:1"},
		{"n", line.Field{Text: "acme", N: 7, Data: []byte{1}}, "w 7"},
		{"n", line.Field{Text: "no name\n", N: 1 << 31}, "w 2147483648"},
		{"s", line.Field{Text: "acme", N: 7, Data: []byte{1}}, "w 7"},
		{"s", line.Field{Text: " ", N: most, Data: []byte{1, 2}}, "w 2147483647"},
		{"b", line.Field{Text: "acme", N: 7, Data: []byte{1}}, "w 01"},
		{"b", line.Field{Text: "a b", N: math.MaxUint64}, "w -"},
		{"b", line.Field{Text: "\xff", N: most + 1, Data: []byte{}}, "w -"},
	} {
		wantWrite(t, "w", c.pattern, []line.Field{c.f}, c.want, api.OK)
	}
	l := slices.Repeat([]line.Field{{Text: "a", N: 5, Data: []byte{171}}}, 5)
	wantWrite(t, "w", "thnbs", l, "w a a 5 ab 5", api.OK)
	wantRead(t, "w a a 5 ab 5", "w", "thnbs", []line.Field{{Text: "a"}, {Text: "a"}, {N: 5}, {Data: []byte{171}}, {N: 5}}, api.OK)
}

// someField has what a sign names, more often than not, and often more.
func someField(r *rand.Rand, sign byte) line.Field {
	w := someWord(r, sign)
	f := line.Field{Text: w, N: pick(r, 0, 1, most, most, r.Uint64()>>r.UintN(64))}
	if sign == 's' && r.IntN(5) > 0 {
		f.N &= most
	}
	for range r.IntN(4) {
		f.Data = append(f.Data, byte(r.Uint32()))
	}
	return f
}

func someFields(r *rand.Rand, pattern string) []line.Field {
	l := make([]line.Field, len(pattern))
	for i := range l {
		l[i] = someField(r, pattern[i])
	}
	switch r.IntN(20) {
	case 0:
		return append(l, someField(r, 'n'))
	case 1:
		return l[:r.IntN(len(l)+1)]
	}
	return l
}

func TestWrite(t *testing.T) {
	r := rand.New(rand.NewPCG(8, 2))
	written, above, none := 0, 0, 0
	for range 200000 {
		pattern := somePattern(r)
		l := someFields(r, pattern)
		word := pick(r, "w", "w", "w", "w", "w", "\xff", "-", "", "w x", "w\n", " ")
		want, err := plainWrite(word, pattern, l)
		wantWrite(t, word, pattern, l, want, err)
		switch err {
		case api.OK:
			written++
		case api.ErrRange:
			above++
		default:
			none++
		}
	}
	if written < 50000 || above < 1000 || none < 50000 {
		t.Errorf("%d lines written, %d above a range, %d of no form", written, above, none)
	}
}

func TestWriteLeavesWhatIsHandedIn(t *testing.T) {
	data := []byte{1, 2, 3, 4}
	room := []line.Field{{Text: "acme", N: 7, Data: data[:2]}, {Text: "a:1", N: 8, Data: data[:2]}, {Text: "room", N: 9}}
	wantWrite(t, "w", "tb", room[:2], "w acme 0102", api.OK)
	wantNoWrite(t, "w", "tt", room[:2], api.ErrForm)
	wantNoWrite(t, "w", "tx", room[:2], api.ErrForm)
	want := []line.Field{{Text: "acme", N: 7, Data: []byte{1, 2}}, {Text: "a:1", N: 8, Data: []byte{1, 2}}, {Text: "room", N: 9}}
	if !slices.EqualFunc(room, want, same) || !bytes.Equal(data, []byte{1, 2, 3, 4}) {
		t.Errorf("changed: %v, %v", room, data)
	}
}

func TestFieldsAreNewMemory(t *testing.T) {
	const s = "w 0102 0304 a"
	want := []line.Field{{Data: []byte{1, 2}}, {Data: []byte{3, 4}}, {Text: "a"}}
	first, _ := line.Read(s, "w", "bbt")
	second, _ := line.Read(s, "w", "bbt")
	_ = append(first[0].Data, 9, 9, 9, 9)
	if !slices.EqualFunc(first, want, same) {
		t.Errorf("fields share memory: %v", first)
	}
	clear(first[0].Data)
	clear(first[1:])
	if !slices.EqualFunc(second, want, same) {
		t.Errorf("an answer shares memory with another: %v", second)
	}
}

// P8.2

func TestWordsThatAreKnown(t *testing.T) {
	for s, want := range map[string]string{
		"":                        "",
		"a":                       "a",
		"cap":                     "cap",
		"cap acme 100":            "cap",
		"cap acme":                "cap",
		"- -":                     "-",
		"7 8 9":                   "7",
		"w w w":                   "w",
		"W x":                     "W",
		"#! x":                    "#!",
		"\x7f \x7f":               "\x7f",
		"\u00e4\u00a0\u3000 b":    "\u00e4\u00a0\u3000",
		"\xff\xfe b":              "\xff\xfe",
		"w A 01 no-fields . : \\": "w",
		// what is no line has no first word
		" ":        "",
		"  ":       "",
		" w":       "",
		"w ":       "",
		"w  ":      "",
		"w  x":     "",
		" w x":     "",
		"w x ":     "",
		"w x  y":   "",
		"w x y z ": "",
		"w\n":      "",
		"w x\n":    "",
		"\nw":      "",
		"w\tx":     "",
		"w x\ty":   "",
		"w \x00":   "",
		"\x00":     "",
		"w\x1f":    "",
		"w x\r\n":  "",
		"\t w":     "",
	} {
		wantWord(t, s, want)
	}
	long := strings.Repeat("w", 1<<20)
	wantWord(t, long, long)
	wantWord(t, long+" x", long)
	wantWord(t, long+" x ", "")
	wantWord(t, "w"+strings.Repeat(" x", 1<<18), "w")
	wantWord(t, "w"+strings.Repeat(" x", 1<<18)+"\n", "")
}

// Each byte as a word, as a piece of one, and behind it.
func TestWordsByTheirBytes(t *testing.T) {
	for i := range 256 {
		b := string([]byte{byte(i)})
		for s, want := range map[string]string{b: b, b + "a": b + "a", "a" + b: "a" + b, "a" + b + "a": "a" + b + "a", b + " a": b, "a " + b: "a", "a b" + b: "a"} {
			if i == ' ' && s == "a a" {
				want = "a"
			} else if i <= ' ' {
				want = ""
			}
			wantWord(t, s, want)
		}
	}
}

// A line that some word and pattern read has that word first.
func TestWordsOfLines(t *testing.T) {
	r := rand.New(rand.NewPCG(8, 3))
	for range 50000 {
		word := pick(r, "w", "cap", "7", "\xff", "", "w x", "w\n")
		s := word
		for range r.IntN(4) {
			s += " " + someWord(r, "thnbs"[r.IntN(5)])
		}
		want := ""
		if plainLine.MatchString(s) {
			want = strings.Split(s, " ")[0]
		}
		wantWord(t, s, want)
	}
}

// P8.3

// left is what a pattern's signs name of fields.
func left(pattern string, l []line.Field) []line.Field {
	out := make([]line.Field, len(l))
	for i, f := range l {
		switch pattern[i] {
		case 't', 'h':
			out[i].Text = f.Text
		case 'n', 's':
			out[i].N = f.N
		case 'b':
			out[i].Data = f.Data
		}
	}
	return out
}

func TestFieldsComeBack(t *testing.T) {
	r := rand.New(rand.NewPCG(8, 4))
	back := 0
	for range 100000 {
		pattern := somePattern(r)
		l := someFields(r, pattern)
		s, err := line.Write("w", pattern, l)
		if err != api.OK {
			continue
		}
		back++
		wantRead(t, s, "w", pattern, left(pattern, l), api.OK)
		wantWord(t, s, "w")
		wantWrite(t, "w", pattern, left(pattern, l), s, api.OK)
	}
	if back < 50000 {
		t.Errorf("%d lines", back)
	}
}

func TestLinesComeBack(t *testing.T) {
	r := rand.New(rand.NewPCG(8, 5))
	back := 0
	for range 100000 {
		pattern := somePattern(r)
		s := "w"
		for i := range len(pattern) {
			s += " " + someWord(r, pattern[i])
		}
		l, err := line.Read(s, "w", pattern)
		if err != api.OK {
			continue
		}
		back++
		wantWrite(t, "w", pattern, l, s, api.OK)
	}
	if back < 50000 {
		t.Errorf("%d lines", back)
	}
}

func FuzzLine(f *testing.F) {
	for _, s := range []string{"", "w", "w 1", "cap acme 100", "x acme 7 00ff a:1", "w 2147483648", "w 18446744073709551616 a", "w  1", " w", "w a b", "w -"} {
		for _, pattern := range []string{"", "n", "s", "tn", "tnbh", "nt", "x", "\u0174", "h", "b"} {
			f.Add(s, "w", pattern, uint64(most))
		}
	}
	f.Fuzz(func(t *testing.T, s, word, pattern string, n uint64) {
		want, err := plainRead(s, word, pattern)
		wantRead(t, s, word, pattern, want, err)
		if err == api.OK {
			wantWrite(t, word, pattern, want, s, api.OK)
		}
		first := ""
		if plainLine.MatchString(s) {
			first = strings.Split(s, " ")[0]
			l, err := plainRead(s, first, pattern)
			wantRead(t, s, first, pattern, l, err)
		}
		wantWord(t, s, first)
		fields := slices.Repeat([]line.Field{{Text: s, N: n, Data: []byte(s)}}, min(len(pattern), 50))
		made, err := plainWrite(word, pattern, fields)
		wantWrite(t, word, pattern, fields, made, err)
	})
}
