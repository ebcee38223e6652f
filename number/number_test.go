package number

import (
	"math/big"
	"regexp"
	"strconv"
	"strings"
	"testing"

	"pidgin/api"
)

// parses: the text is read as this number, or has this error.
func parses(t *testing.T, s string, n uint16, k api.Kind) {
	t.Helper()
	if got, kind := Parse(s); got != n || kind != k {
		t.Errorf("Parse of %q: %d, kind %d, not %d, kind %d", s, got, kind, n, k)
	}
}

// unquotes: the text between the quotes is this one, or has this error.
func unquotes(t *testing.T, s, text string, k api.Kind) {
	t.Helper()
	if got, kind := Unquote(s); got != text || kind != k {
		t.Errorf("Unquote of %q: %q, kind %d, not %q, kind %d", s, got, kind, text, k)
	}
}

// bothSizes: with the small letters and with the great ones.
func bothSizes(s string) []string { return []string{strings.ToLower(s), strings.ToUpper(s)} }

// eachText: every text of at most n of these parts.
func eachText(parts []string, n int, do func(s string)) {
	do("")
	if n == 0 {
		return
	}
	for _, p := range parts {
		eachText(parts, n-1, func(s string) { do(p + s) })
	}
}

// The chapter's example.
func TestExample(t *testing.T) {
	for _, s := range []string{"0FFH", "377Q", "11111111B", "255"} {
		parses(t, s, 255, api.OK)
	}
	if s := Show(255); s != "0FFH" {
		t.Errorf("Show of 255: %q", s)
	}
}

// P301: each base by its letter, small or great.
func TestParse(t *testing.T) {
	rows := []struct {
		s string
		n uint16
	}{
		{"0", 0}, {"9", 9}, {"10", 10}, {"0000", 0}, {"007", 7}, {"12345", 12345},
		{"0H", 0}, {"9H", 9}, {"10H", 16}, {"0AH", 10}, {"0ABCDH", 0xabcd}, {"1EFH", 0x1ef}, {"00FFH", 255},
		{"0O", 0}, {"7O", 7}, {"10O", 8}, {"0Q", 0}, {"7Q", 7}, {"10Q", 8}, {"34567O", 0o34567},
		{"0B", 0}, {"1B", 1}, {"10B", 2}, {"0101B", 5}, {"0000000000000000000000001B", 1},
		{"0D", 0}, {"9D", 9}, {"10D", 10}, {"0255D", 255},
		{"0BH", 11}, {"0DH", 13}, {"1BH", 27}, {"1DH", 29}, {"0BBH", 0xbb}, {"0DDH", 0xdd}, {"101BH", 0x101b}, {"12DH", 0x12d},
	}
	for _, r := range rows {
		for _, s := range bothSizes(r.s) {
			parses(t, s, r.n, api.OK)
		}
	}
	parses(t, "0aBcDh", 0xabcd, api.OK)
}

// P301: what is no number's text.
func TestParseSyntax(t *testing.T) {
	texts := []string{
		"", " ", "A", "B", "D", "F", "H", "O", "Q", "Z", "AH", "FFH", "BH", "DH", "HH", "QQ", "B1", "D0",
		"G", "0G", "1X", "0AG", "0GH", "1Z", // letters that are no digit
		"0A", "1F", "0FF", "12C", "9E", "0C", // of base 16 without its letter
		"0FB", "1AB", "1BD", "0FFD", "12AD", "0ABCDB", "1BB", "0DD", "1DB", "0BD", // read by that letter
		"2B", "3B", "12B", "21B", "9B", "1000200B", "8O", "9O", "18O", "81O", "8Q", "9Q", "108Q", "1AO", "0FQ", // not of its base
		"0HH", "1OO", "1HB", "1QH", "1HQ", "1OQ", "1QD", "10H0", "0Q1", "1O1", // letters of a base ahead of the last one
		"+1", "-1", "1+", "0x10", "1_0", "1.", "1 ", " 1", "1\t", "1\n", "\x001", "1\x00", "$", "1$", "'1'", "/", ":", "0:H", "0@H", "0`H", "0/H",
		"é", "1é", "é1", "1éH", "\xff", "1\xff", "1\xffH", "\xffH", "1\xc3", "1H\xa9", "1\xc8", "\xb1", "１", "1１", "٣", "1٣", "1Ｈ", "0ＡH", "1\u0131", "1\ufffdH", "1\u0130H", "\U00010030",
	}
	for _, s := range texts {
		parses(t, s, 0, api.Syntax)
		for _, s := range bothSizes(s) {
			parses(t, s, 0, api.Syntax)
		}
	}
}

// P301: 65535 and 65536 in each base, and numbers of many more digits.
func TestParseRange(t *testing.T) {
	bases := []struct {
		base    int
		letters string
	}{{16, "Hh"}, {8, "OoQq"}, {2, "Bb"}, {10, "Dd"}}
	ends := []struct {
		n int64
		k api.Kind
	}{{65534, api.OK}, {65535, api.OK}, {65536, api.Range}, {65537, api.Range}, {65536 * 16, api.Range}, {1<<32 + 5, api.Range}, {1<<62 + 7, api.Range}}
	for _, b := range bases {
		for _, e := range ends {
			digits := "0" + strconv.FormatInt(e.n, b.base)
			n := uint16(e.n)
			if e.k != api.OK {
				n = 0
			}
			for _, letter := range b.letters {
				parses(t, digits+string(letter), n, e.k)
				parses(t, strings.Repeat("0", 1000)+digits+string(letter), n, e.k)
			}
		}
		one := "1" + strings.Repeat("0", 5000) // a multiple of 2^64 in any base but 10
		parses(t, one+b.letters[:1], 0, api.Range)
		parses(t, strings.Repeat("1", 5000)+b.letters[:1], 0, api.Range)
	}
	parses(t, "65535", 65535, api.OK)
	parses(t, "65536", 0, api.Range)
	parses(t, "99999", 0, api.Range)
	parses(t, "18446744073709551616", 0, api.Range)
	parses(t, "18446744073709551621", 0, api.Range)
	parses(t, strings.Repeat("9", 1<<20), 0, api.Range)
	parses(t, strings.Repeat("0", 1<<20)+"9", 9, api.OK)
}

// P301: Syntax comes ahead of Range, wherever the wrong digit stands.
func TestParseOrder(t *testing.T) {
	for _, s := range []string{"99999A", "99999G", "999999999999999999999 ", "0FFFFFGH", "77777778Q", "111111111111111112B", "65536F", "65536HH", "0FFFFFF", "F99999H", "99999\xff"} {
		parses(t, s, 0, api.Syntax)
	}
}

// wantParse reads a text by the words' shapes, one for each base, apart from what the package does.
func wantParse(s string, shapes map[int]*regexp.Regexp) (uint16, api.Kind) {
	for base, shape := range shapes {
		if m := shape.FindStringSubmatch(s); m != nil {
			n, _ := new(big.Int).SetString(m[1], base)
			if n.Cmp(big.NewInt(65535)) > 0 {
				return 0, api.Range
			}
			return uint16(n.Int64()), api.OK
		}
	}
	return 0, api.Syntax
}

// P301: every text of a few bytes, as the words have it.
func TestParseEach(t *testing.T) {
	shapes := map[int]*regexp.Regexp{
		16: regexp.MustCompile(`^([0-9][0-9A-Fa-f]*)[Hh]$`),
		8:  regexp.MustCompile(`^([0-7]+)[OoQq]$`),
		2:  regexp.MustCompile(`^([01]+)[Bb]$`),
		10: regexp.MustCompile(`^([0-9]+)[Dd]?$`),
	}
	check := func(s string) {
		n, k := wantParse(s, shapes)
		parses(t, s, n, k)
	}
	var bytes []string
	for n := range 256 {
		bytes = append(bytes, string([]byte{byte(n)}))
	}
	eachText(bytes, 2, check)
	eachText(strings.Split("0127899ABDFGHOQabdho", ""), 4, check)
	eachText([]string{"0", "1", "6", "5", "9", "f", "H", "\xff"}, 6, check)
}

// P302: below 10 a digit; else base 16, with a 0 ahead of a letter alone.
func TestShow(t *testing.T) {
	rows := []struct {
		n uint16
		s string
	}{
		{0, "0"}, {1, "1"}, {9, "9"}, {10, "0AH"}, {11, "0BH"}, {15, "0FH"}, {16, "10H"}, {0x1a, "1AH"}, {0x99, "99H"}, {0x9f, "9FH"}, {0xa0, "0A0H"},
		{255, "0FFH"}, {0x100, "100H"}, {0x9ff, "9FFH"}, {0xabc, "0ABCH"}, {0xfff, "0FFFH"}, {0x1000, "1000H"}, {0x9abc, "9ABCH"}, {0xdef0, "0DEF0H"}, {65535, "0FFFFH"},
	}
	for _, r := range rows {
		if s := Show(r.n); s != r.s {
			t.Errorf("Show of %d: %q, not %q", r.n, s, r.s)
		}
	}
}

// P302: all numbers, by shapes and by the library's reader.
func TestShowEach(t *testing.T) {
	shape := regexp.MustCompile(`^(?:[0-9]|(?:0[A-F]|[1-9])[0-9A-F]{0,3}H)$`)
	for n := range 65536 {
		s := Show(uint16(n))
		if !shape.MatchString(s) || (n < 10) != (len(s) == 1) {
			t.Errorf("Show of %d: %q", n, s)
		}
		if got, err := strconv.ParseUint(strings.TrimSuffix(s, "H"), 16, 32); err != nil || got != uint64(n) {
			t.Errorf("Show of %d: %q, which is %d", n, s, got)
		}
	}
}

// P303: quotes around, and each one within twice.
func TestQuote(t *testing.T) {
	rows := []struct{ s, q string }{
		{"", "''"}, {"a", "'a'"}, {"It", "'It'"}, {"'", "''''"}, {"''", "''''''"}, {"a'b", "'a''b'"}, {"'a", "'''a'"}, {"a'", "'a'''"},
		{" ", "' '"}, {"~", "'~'"}, {"\"", "'\"'"}, {"\x00\n\x7f", "'\x00\n\x7f'"}, {"\xff\xc3'", "'\xff\xc3'''"}, {"é\u2019", "'é\u2019'"},
	}
	for _, r := range rows {
		if q := Quote(r.s); q != r.q {
			t.Errorf("Quote of %q: %q, not %q", r.s, q, r.q)
		}
	}
}

// P303: the text between, two quotes for one.
func TestUnquote(t *testing.T) {
	rows := []struct{ q, s string }{
		{"''", ""}, {"'a'", "a"}, {"' '", " "}, {"'~'", "~"}, {"''''", "'"}, {"''''''", "''"}, {"'a''b'", "a'b"}, {"'''a'", "'a"}, {"'a'''", "a'"}, {"'''a'''", "'a'"},
		{"'a''''b'", "a''b"}, {"'\"`'", "\"`"}, {"';,()'", ";,()"}, {"'a b'", "a b"}, {"'aZ0'", "aZ0"},
	}
	for _, r := range rows {
		unquotes(t, r.q, r.s, api.OK)
	}
}

// P303: what is not between two quotes, or has a quote alone or a byte that no text has.
func TestUnquoteSyntax(t *testing.T) {
	texts := []string{
		"", "'", "a", "'a", "a'", "ab", "\"a\"", " 'a'", "'a' ", "a''", "''a", "x'a'", "'a'x", "`a'",
		"'''", "'''''", "'a'b'", "''a'", "'a''", "'a'''b'", "'a''b'c'", "''a''", "'a' 'b'", "'''a''",
		"'\x00'", "'\x1f'", "'\x7f'", "'\x80'", "'\xff'", "'\t'", "'a\nb'", "'\r'", "'é'", "'a\xc3'", "'\xa9a'", "'\u2019'", "'\ufffd'", "\u2019a\u2019", "'\x1f''", "\xff'", "'\xff",
	}
	for _, s := range texts {
		unquotes(t, s, "", api.Syntax)
	}
}

// P303: each byte alone between quotes.
func TestUnquoteEach(t *testing.T) {
	for n := range 256 {
		s := string([]byte{byte(n)})
		if n >= ' ' && n <= 126 && n != '\'' {
			unquotes(t, "'"+s+"'", s, api.OK)
			unquotes(t, "'x"+s+"y'", "x"+s+"y", api.OK)
		} else {
			unquotes(t, "'"+s+"'", "", api.Syntax)
			unquotes(t, "'x"+s+"y'", "", api.Syntax)
		}
	}
}

// wantUnquote cuts pair by pair from the left, apart from what the package does.
func wantUnquote(s string) (string, api.Kind) {
	shape := regexp.MustCompile(`^'((?:''|[ -&(-~])*)'$`)
	m := shape.FindStringSubmatch(s)
	if m == nil {
		return "", api.Syntax
	}
	var text []byte
	for i := 0; i < len(m[1]); i++ {
		text = append(text, m[1][i])
		if m[1][i] == '\'' {
			i++
		}
	}
	return string(text), api.OK
}

// P303: every text of a few quotes and other bytes.
func TestUnquoteShapes(t *testing.T) {
	eachText([]string{"'", "a", " ", "\x1f", "\xff"}, 6, func(s string) {
		text, k := wantUnquote(s)
		unquotes(t, s, text, k)
	})
}

// P303: of one and of two bytes the number, whichever bytes; of none and of more Range.
func TestValue(t *testing.T) {
	rows := []struct {
		s string
		n uint16
		k api.Kind
	}{
		{"", 0, api.Range}, {"A", 'A', api.OK}, {"AB", 0x4142, api.OK}, {"BA", 0x4241, api.OK}, {"ABC", 0, api.Range}, {"ABCD", 0, api.Range},
		{"'", 0x27, api.OK}, {"''", 0x2727, api.OK}, {"'A'", 0, api.Range}, {"é", 0xc3a9, api.OK}, {"éa", 0, api.Range}, {"\u2019", 0, api.Range}, {"\x00\x00\x00", 0, api.Range},
	}
	for _, r := range rows {
		if n, k := Value(r.s); n != r.n || k != r.k {
			t.Errorf("Value of %q: %d, kind %d, not %d, kind %d", r.s, n, k, r.n, r.k)
		}
	}
	if n, k := Value(strings.Repeat("x", 1<<16+1)); n != 0 || k != api.Range {
		t.Errorf("Value of 65537 bytes: %d, kind %d", n, k)
	}
	for n := range 65536 {
		s := string([]byte{byte(n >> 8), byte(n)})
		if got, k := Value(s); got != uint16(n) || k != api.OK {
			t.Errorf("Value of %q: %d, kind %d", s, got, k)
		}
		if got, k := Value(s[1:]); got != uint16(n%256) || k != api.OK {
			t.Errorf("Value of %q: %d, kind %d", s[1:], got, k)
		}
	}
}

// P304: from 1 to MaxName bytes, and no digit first.
func TestName(t *testing.T) {
	rows := []struct {
		s    string
		name bool
	}{
		{"", false}, {"A", true}, {"z", true}, {"?", true}, {"@", true}, {"_", true}, {"0", false}, {"9", false}, {"0A", false}, {"1H", false},
		{"A0", true}, {"L1", true}, {"loop", true}, {"Loop_9", true}, {"?9", true}, {"@0", true}, {"_0", true}, {"@@??__", true}, {"OR", true}, {"A9Z", true},
		{"A ", false}, {" A", false}, {"A B", false}, {"A:", false}, {"A-B", false}, {"A.B", false}, {"A$", false}, {"$", false}, {"A'", false}, {"A\x00", false},
		{"é", false}, {"Aé", false}, {"\xff", false}, {"A\xff", false}, {"\xc3", false}, {"A\xa9", false}, {"\u0391", false}, {"A\uff11", false}, {"\uff21", false}, {"A\u212a", false}, {"\u017f", false}, {"\ufffd", false},
	}
	for _, r := range rows {
		if is := Name(r.s); is != r.name {
			t.Errorf("Name of %q: %v", r.s, is)
		}
	}
}

// P304: lengths are told in bytes.
func TestNameLength(t *testing.T) {
	for n := range 2 * api.MaxName {
		for _, first := range []string{"A", "z", "?", "@", "_"} {
			s := first + strings.Repeat("9", n)
			if is := Name(s); is != (n+1 <= api.MaxName) {
				t.Errorf("Name of %d bytes, %q: %v", n+1, s, is)
			}
		}
	}
	if Name(strings.Repeat("A", 1<<20)) || Name(strings.Repeat("é", 8)) {
		t.Error("Name of a text that is too long, or no name")
	}
}

// P304: each byte as a name's first one, and as a later one.
func TestNameEach(t *testing.T) {
	for n := range 256 {
		s := string([]byte{byte(n)})
		first := strings.Contains("ABCDEFGHIJKLMNOPQRSTUVWXYZabcdefghijklmnopqrstuvwxyz?@_", s)
		later := first || strings.Contains("0123456789", s)
		if Name(s) != first || Name(s+"a") != first {
			t.Errorf("Name with %q first: not %v", s, first)
		}
		if Name("a"+s) != later || Name("Ab"+s+"c") != later {
			t.Errorf("Name with %q behind its first: not %v", s, later)
		}
	}
}

// P304: small letters are made great, and nothing else is touched.
func TestUpper(t *testing.T) {
	rows := []struct{ s, u string }{
		{"", ""}, {"abcxyz", "ABCXYZ"}, {"ABC", "ABC"}, {"a1?@_b", "A1?@_B"}, {"0ffh", "0FFH"}, {"'it''s'", "'IT''S'"},
		{"éa", "éA"}, {"\xffa\xc3", "\xffA\xc3"}, {"a\xe1\xba", "A\xe1\xba"}, {"\u0131\u017fz", "\u0131\u017fZ"}, {"\ufffdq", "\ufffdQ"}, {"ß\u00b5", "ß\u00b5"}, {"\U0001f600k", "\U0001f600K"},
	}
	for _, r := range rows {
		if u := Upper(r.s); u != r.u {
			t.Errorf("Upper of %q: %q, not %q", r.s, u, r.u)
		}
	}
	for n := range 65536 {
		s := []byte{byte(n >> 8), byte(n)}
		want := []byte{byte(n >> 8), byte(n)}
		for i, b := range want {
			if b >= 'a' && b <= 'z' {
				want[i] = b - 32
			}
		}
		if u := Upper(string(s)); u != string(want) {
			t.Errorf("Upper of %q: %q, not %q", s, u, want)
		}
	}
}

// P305: what is shown is read as it was.
func TestShownIsRead(t *testing.T) {
	for n := range 65536 {
		s := Show(uint16(n))
		parses(t, s, uint16(n), api.OK)
		parses(t, strings.ToLower(s), uint16(n), api.OK)
	}
}

// P305: what was quoted is unquoted; of bytes that no text has comes Syntax.
func TestQuotedIsUnquoted(t *testing.T) {
	eachText([]string{"'", "a", " ", "~", "0"}, 6, func(s string) {
		unquotes(t, Quote(s), s, api.OK)
	})
	eachText([]string{"'", "a", "\x7f"}, 4, func(s string) {
		if strings.Contains(s, "\x7f") {
			unquotes(t, Quote(s), "", api.Syntax)
		}
	})
	var all []byte
	for b := byte(' '); b <= 126; b++ {
		all = append(all, b)
	}
	long := strings.Repeat(string(all)+"''", 1000)
	unquotes(t, Quote(long), long, api.OK)
}
