package token

import (
	"regexp"
	"slices"
	"strings"
	"testing"

	"pidgin/api"
	"pidgin/number"
)

func name(s string) Token     { return Token{Kind: 1, S: s} }
func num(n uint16) Token      { return Token{Kind: 2, N: n} }
func text(s string) Token     { return Token{Kind: 3, S: s} }
func mark(s string) Token     { return Token{Kind: 4, S: s} }
func list(l ...Token) []Token { return l }

// allMarks: each one that there is.
func allMarks() []string { return strings.Split(",()[]+-*/:$", "") }

// reads: the line has just these tokens.
func reads(t *testing.T, s string, want ...Token) {
	t.Helper()
	if l, k := Line(s); k != api.OK || !slices.Equal(l, want) {
		t.Errorf("Line of %q: %v, kind %d, not %v", s, l, k, want)
	}
}

// fails: the line has this error, and no tokens come.
func fails(t *testing.T, s string, want api.Kind) {
	t.Helper()
	if l, k := Line(s); k != want || len(l) > 0 {
		t.Errorf("Line of %q: %v, kind %d, not kind %d", s, l, k, want)
	}
}

// shows: the tokens have this text.
func shows(t *testing.T, l []Token, want string) {
	t.Helper()
	if s := Show(l); s != want {
		t.Errorf("Show of %v: %q, not %q", l, s, want)
	}
}

// cuts: the tokens between marks are these.
func cuts(t *testing.T, l []Token, by string, want ...[]Token) {
	t.Helper()
	if got := Cut(l, by); !sameParts(got, want) {
		t.Errorf("Cut of %q by %q: %v, not %v", Show(l), by, got, want)
	}
}

func sameParts(a, b [][]Token) bool { return slices.EqualFunc(a, b, slices.Equal[[]Token]) }

// of: a line's tokens.
func of(t *testing.T, s string) []Token {
	t.Helper()
	l, k := Line(s)
	if k != api.OK {
		t.Fatalf("Line of %q: kind %d", s, k)
	}
	return l
}

// eachText: every text of at most n of these parts.
func eachText(parts []string, n int, do func(s string)) {
	do("")
	if n == 0 {
		return
	}
	for _, p := range parts {
		eachText(parts, n-1, func(s string) { do(p + s) })
	}
}

// eachList: every list of at most n of these tokens.
func eachList(tokens []Token, n int, do func(l []Token)) {
	do(nil)
	if n == 0 {
		return
	}
	for _, x := range tokens {
		eachList(tokens, n-1, func(l []Token) { do(append(list(x), l...)) })
	}
}

// The chapter's example.
func TestExample(t *testing.T) {
	reads(t, "L1: mvi a,0ffh ; x", name("L1"), mark(":"), name("MVI"), name("A"), mark(","), num(255))
	shows(t, of(t, "L1: mvi a,0ffh ; x"), "L1 : MVI A , 0FFH")
}

// P401: what has no token: nothing, spaces and tabs, what stands behind a ;.
func TestLineEmpty(t *testing.T) {
	for _, s := range []string{"", " ", "\t", "  \t \t", ";", " ;", ";;", ";; ;", "\t; x", ";mvi a,5", ";'", ";\x00\n\xff", "; 'a", ";0GH 99999", strings.Repeat(" ", api.MaxLine), ";" + strings.Repeat("'", api.MaxLine-1)} {
		reads(t, s)
	}
}

// P401: a ; ends the line, but within a text in quotes.
func TestLineRemark(t *testing.T) {
	a, b := name("A"), name("B")
	reads(t, "a;", a)
	reads(t, "a ;", a)
	reads(t, "a;b", a)
	reads(t, "a b;c ; d;", a, b)
	reads(t, "12;3", num(12))
	reads(t, "+;+", mark("+"))
	reads(t, "'a';'b'", text("a"))
	reads(t, "';'", text(";"))
	reads(t, "';';", text(";"))
	reads(t, "'a;b' b;'", text("a;b"), b)
	reads(t, "''';' ; '", text("';"))
	reads(t, "a;\x00\x80\xff!99999H'", a)
	reads(t, "a;"+strings.Repeat("X", 100), a)
}

// P401: lengths of a line are told in bytes, of all of it, ahead of all else.
func TestLineLength(t *testing.T) {
	full := api.MaxLine
	reads(t, strings.Repeat(" ", full-1)+"a", name("A"))
	reads(t, "a;"+strings.Repeat("x", full-2), name("A"))
	reads(t, "'"+strings.Repeat("x", full-2)+"'", text(strings.Repeat("x", full-2)))
	reads(t, strings.Repeat("0", full), num(0))
	reads(t, strings.Repeat("$", full), slices.Repeat(list(mark("$")), full)...)
	reads(t, ";"+strings.Repeat("é", (full-2)/2)+"x")
	long := []string{
		strings.Repeat(" ", full+1), strings.Repeat("\t", full+1), "a" + strings.Repeat(" ", full), strings.Repeat(" ", full) + "a",
		"a;" + strings.Repeat("x", full-1), ";" + strings.Repeat("x", full), ";" + strings.Repeat("é", full/2),
		"'" + strings.Repeat("x", full-1) + "'", "'" + strings.Repeat("x", full), strings.Repeat("0", full+1), strings.Repeat("$", full+1),
		strings.Repeat("\xff", full+1), "!" + strings.Repeat("x", full), "0G" + strings.Repeat(" ", full), "99999" + strings.Repeat(" ", full), // other errors, too
		strings.Repeat("x", 1<<20),
	}
	for _, s := range long {
		fails(t, s, api.TooLarge)
	}
	fails(t, strings.Repeat("\xff", full), api.Syntax)
	fails(t, "'"+strings.Repeat("x", full-1), api.Syntax)
	fails(t, strings.Repeat("9", full), api.Range)
}

// P401: names come in great letters.
func TestLineName(t *testing.T) {
	rows := []struct{ s, name string }{
		{"a", "A"}, {"A", "A"}, {"z", "Z"}, {"mvi", "MVI"}, {"Mvi", "MVI"}, {"l1", "L1"}, {"L9z", "L9Z"}, {"?", "?"}, {"@", "@"}, {"_", "_"},
		{"?x", "?X"}, {"@0", "@0"}, {"_9", "_9"}, {"a?@_0", "A?@_0"}, {"?@_", "?@_"}, {"__", "__"}, {"x0ffh", "X0FFH"}, {"ffh", "FFH"}, {"or", "OR"}, {"h", "H"},
	}
	for _, r := range rows {
		reads(t, r.s, name(r.name))
	}
	reads(t, "a B", name("A"), name("B"))
	reads(t, "a\tb", name("A"), name("B"))
}

// P401: of a name at most MaxName bytes; what is behind a longer one is not looked at.
func TestLineNameLength(t *testing.T) {
	for n := 1; n <= 2*api.MaxName; n++ {
		for _, first := range []string{"a", "Z", "?", "@", "_"} {
			s := first + strings.Repeat("x", n-1)
			if n <= api.MaxName {
				reads(t, s, name(strings.ToUpper(s)))
				reads(t, s+":"+s, name(strings.ToUpper(s)), mark(":"), name(strings.ToUpper(s)))
				continue
			}
			for _, more := range []string{"", " ", ":", ";", "'", "\xff", " 0G", " 99999", "'a'"} {
				fails(t, s+more, api.TooLarge)
				fails(t, "a, "+s+more, api.TooLarge)
			}
		}
	}
	fails(t, "A1234567890123456", api.TooLarge)
	reads(t, "A123456789012345", name("A123456789012345"))
	fails(t, strings.Repeat("a", api.MaxLine), api.TooLarge)
	reads(t, strings.Repeat("a", api.MaxName)+"$", name(strings.Repeat("A", api.MaxName)), mark("$"))
	reads(t, "a;"+strings.Repeat("b", api.MaxName+1), name("A"))
	reads(t, "'"+strings.Repeat("b", api.MaxName+1)+"'", text(strings.Repeat("b", api.MaxName+1)))
}

// P401: numbers of each base.
func TestLineNumber(t *testing.T) {
	rows := []struct {
		s string
		n uint16
	}{
		{"0", 0}, {"9", 9}, {"255", 255}, {"255d", 255}, {"255D", 255}, {"65535", 65535}, {"0ffh", 255}, {"0FFH", 255}, {"0fFh", 255}, {"0FFFFh", 65535},
		{"377q", 255}, {"377Q", 255}, {"377o", 255}, {"377O", 255}, {"177777q", 65535}, {"101b", 5}, {"101B", 5}, {"1111111111111111b", 65535}, {"1bh", 27}, {"1dh", 29}, {"00000000000000000000007", 7},
	}
	for _, r := range rows {
		reads(t, r.s, num(r.n))
		reads(t, "("+r.s+")", mark("("), num(r.n), mark(")"))
	}
}

// P401: letters and digits that are no number's text, or not of its base, and what is above 65535, all by chapter 3.
func TestLineNumberErrors(t *testing.T) {
	for _, s := range []string{"0G", "1x", "0ff", "12c", "9e", "2b", "12b", "8q", "9O", "1AO", "0fb", "1ad", "0gh", "1hh", "0x10", "10h0", "1mvi", "99999g", "7z;", "0Q1"} {
		fails(t, s, api.Syntax)
		fails(t, "a "+s+" 70000", api.Syntax)
	}
	for _, s := range []string{"65536", "65536d", "10000h", "0ffff0h", "200000q", "200000o", "10000000000000000b", "99999", strings.Repeat("1", api.MaxLine), "65536;"} {
		fails(t, s, api.Range)
		if len(s) < 100 {
			fails(t, "a "+s+" 1x", api.Range)
		}
	}
}

// P401: a number goes on with letters and digits alone.
func TestLineNumberEnd(t *testing.T) {
	reads(t, "1?", num(1), name("?"))
	reads(t, "1@", num(1), name("@"))
	reads(t, "1_a", num(1), name("_A"))
	reads(t, "1?1", num(1), name("?1"))
	reads(t, "0ffh_", num(255), name("_"))
	reads(t, "1$", num(1), mark("$"))
	reads(t, "1'1'", num(1), text("1"))
	reads(t, "1 1", num(1), num(1))
	reads(t, "1\th", num(1), name("H"))
	reads(t, "1:h", num(1), mark(":"), name("H"))
	fails(t, "1é", api.Syntax)
	fails(t, "1.5", api.Syntax)
}

// P401: a text goes on to the next quote that has none behind it; two stand for one.
func TestLineText(t *testing.T) {
	rows := []struct{ s, text string }{
		{"''", ""}, {"'a'", "a"}, {"'A'", "A"}, {"'ab c'", "ab c"}, {"' '", " "}, {"'~'", "~"}, {"''''", "'"}, {"''''''", "''"}, {"'a''b'", "a'b"}, {"'''a'", "'a"}, {"'a'''", "a'"},
		{"'''a'''", "'a'"}, {"'a''''b'", "a''b"}, {"','", ","}, {"'('", "("}, {"'mvi a,5'", "mvi a,5"}, {"'0G'", "0G"}, {"'70000'", "70000"}, {"'\"!#%'", "\"!#%"},
	}
	for _, r := range rows {
		reads(t, r.s, text(r.text))
		reads(t, "\t"+r.s+" ", text(r.text))
		reads(t, r.s+","+r.s, text(r.text), mark(","), text(r.text))
		reads(t, r.s+" "+r.s, text(r.text), text(r.text))
	}
	reads(t, "'a' 'b'", text("a"), text("b"))
	reads(t, "'a''b' 'c'", text("a'b"), text("c"))
	reads(t, "'' ''", text(""), text(""))
}

// P401: Syntax: no quote ends it, or a byte within that no text has.
func TestLineTextErrors(t *testing.T) {
	open := []string{"'", "'''", "'''''", "'a", "'a''", "'a''b", "'''a", "'a''''", "a'", "'a''b'c'", "'a' '", "'a' 'b", "'a;", "';", "'a b ; c", "' '' ", "db 'it''s"}
	for _, s := range open {
		fails(t, s, api.Syntax)
		fails(t, s+" ", api.Syntax)
	}
	for n := range 256 {
		b := string([]byte{byte(n)})
		switch {
		case b == "'":
		case n >= ' ' && n <= 126:
			reads(t, "'"+b+"'", text(b))
			reads(t, "'x"+b+"y'", text("x"+b+"y"))
		default:
			fails(t, "'"+b+"'", api.Syntax)
			fails(t, "'x"+b+"y'", api.Syntax)
			fails(t, "'a' 'x"+b+"' 70000", api.Syntax)
		}
	}
}

// P401: each mark, alone and beside all others.
func TestLineMark(t *testing.T) {
	for _, a := range allMarks() {
		reads(t, a, mark(a))
		reads(t, "x"+a+"1", name("X"), mark(a), num(1))
		reads(t, "1"+a+"x", num(1), mark(a), name("X"))
		reads(t, "'x'"+a+"'y'", text("x"), mark(a), text("y"))
		for _, b := range allMarks() {
			reads(t, a+b, mark(a), mark(b))
			reads(t, a+" "+b, mark(a), mark(b))
		}
	}
}

// P401: each byte as the first one of a token.
func TestLineEach(t *testing.T) {
	for n := range 256 {
		b := string([]byte{byte(n)})
		switch {
		case b == " " || b == "\t" || b == ";":
			reads(t, b)
			reads(t, "x"+b, name("X"))
		case strings.Contains("?@_ABCDEFGHIJKLMNOPQRSTUVWXYZabcdefghijklmnopqrstuvwxyz", b):
			reads(t, b, name(strings.ToUpper(b)))
		case strings.Contains("0123456789", b):
			reads(t, b, num(uint16(n-'0')))
		case strings.Contains(",()[]+-*/:$", b):
			reads(t, b, mark(b))
		default: // a quote alone is a text without an end
			fails(t, b, api.Syntax)
			fails(t, "x"+b, api.Syntax)
			fails(t, "x "+b+" 70000", api.Syntax)
			fails(t, " 1"+b+"x", api.Syntax)
		}
	}
	for _, s := range []string{"é", "xé", "1é", "\u0391", "x\uff21", "\uff11", "\ufffd", "\u00a0", "a\u2028b", "a\nb", "a\r", "a\r\n", "\v", "\f", "\x00", "a\x00;", "a\xc3;", "\u2019a\u2019", "\"a\"", "a.b", "x=1", "a|b", "{a}", "<a>", "a!", "#1", "a%b", "a&b", "\\", "^", "`", "~"} {
		fails(t, s, api.Syntax)
	}
}

// P401: of several errors the first one from the left.
func TestLineFirstError(t *testing.T) {
	long := strings.Repeat("n", api.MaxName+1)
	errs := []struct {
		s string
		k api.Kind
	}{{"0G", api.Syntax}, {"70000", api.Range}, {long, api.TooLarge}, {"!", api.Syntax}, {"'\x01'", api.Syntax}, {"\xff", api.Syntax}, {"99999999H", api.Range}}
	for _, a := range errs {
		fails(t, a.s, a.k)
		for _, b := range errs {
			fails(t, a.s+" "+b.s, a.k)
			fails(t, "l: db 1,"+a.s+","+b.s+" ; "+b.s, a.k)
			fails(t, a.s+" '", a.k)
		}
		fails(t, "' "+a.s, api.Syntax)
		reads(t, "x;"+a.s, name("X"))
	}
}

// P401: tokens with no space between them.
func TestLineTight(t *testing.T) {
	reads(t, "l1:mvi a,0ffh;x", name("L1"), mark(":"), name("MVI"), name("A"), mark(","), num(255))
	reads(t, "db'a','b'", name("DB"), text("a"), mark(","), text("b"))
	reads(t, "x+1-(y*2)/$", name("X"), mark("+"), num(1), mark("-"), mark("("), name("Y"), mark("*"), num(2), mark(")"), mark("/"), mark("$"))
	reads(t, "[bx]", mark("["), name("BX"), mark("]"))
	reads(t, "'a'b'c'1'd'", text("a"), name("B"), text("c"), num(1), text("d"))
	reads(t, "a1'1'2?3", name("A1"), text("1"), num(2), name("?3"))
	reads(t, "$$::,,", mark("$"), mark("$"), mark(":"), mark(":"), mark(","), mark(","))
}

// shapes: of a line's parts, by the words, apart from what the package does.
type shapes struct{ name, number, text, mark *regexp.Regexp }

func newShapes() shapes {
	return shapes{
		regexp.MustCompile(`^[A-Za-z?@_][A-Za-z0-9?@_]*`), regexp.MustCompile(`^[0-9][A-Za-z0-9]*`),
		regexp.MustCompile(`^'(?:''|[^'])*'`), regexp.MustCompile(`^[][,()+*/:$-]`),
	}
}

// line: the tokens of a line, each taken off by its shape.
func (r shapes) line(s string) ([]Token, api.Kind) {
	var l []Token
	for s = strings.TrimLeft(withoutRemark(s), " \t"); s != ""; s = strings.TrimLeft(s, " \t") {
		x, m, k := r.first(s)
		if k != api.OK {
			return nil, k
		}
		l, s = append(l, x), s[len(m):]
	}
	return l, api.OK
}

// first: the token at the begin, and the text that it takes.
func (r shapes) first(s string) (x Token, m string, k api.Kind) {
	if m = r.name.FindString(s); len(m) > 16 {
		return x, m, api.TooLarge
	} else if m != "" {
		return name(strings.ToUpper(m)), m, api.OK
	}
	if m = r.number.FindString(s); m != "" {
		n, k := number.Parse(m)
		return num(n), m, k
	}
	if m = r.text.FindString(s); m != "" && !strings.HasPrefix(s[len(m):], "'") {
		within, k := number.Unquote(m)
		return text(within), m, k
	}
	if m = r.mark.FindString(s); m != "" {
		return mark(m), m, api.OK
	}
	return x, m, api.Syntax
}

// withoutRemark: up to the first ; that has quotes in an even number ahead.
func withoutRemark(s string) string {
	for i := range len(s) {
		if s[i] == ';' && strings.Count(s[:i], "'")%2 == 0 {
			return s[:i]
		}
	}
	return s
}

// P401: every line of a few parts, by the words' shapes.
func TestLineShapes(t *testing.T) {
	r := newShapes()
	check := func(s string) {
		want, wantK := r.line(s)
		if l, k := Line(s); k != wantK || !slices.Equal(l, want) {
			t.Errorf("Line of %q: %v, kind %d, not %v, kind %d", s, l, k, want, wantK)
		}
	}
	var bytes []string
	for n := range 256 {
		bytes = append(bytes, string([]byte{byte(n)}))
	}
	eachText(bytes, 2, check)
	eachText([]string{"'", "a", ";", " ", "\xff"}, 7, check)
	eachText([]string{"0", "1", "h", "G", "?", " ", ",", "'", ";", "!"}, 5, check)
	eachText([]string{"aBcDeFg", "_1", "65535", "h", ":", "\t", "'"}, 6, check)
}

// P402: the texts of all kinds, with one space between.
func TestShow(t *testing.T) {
	rows := []struct {
		l []Token
		s string
	}{
		{nil, ""}, {list(), ""},
		{list(name("A")), "A"}, {list(num(0)), "0"}, {list(num(9)), "9"}, {list(num(10)), "0AH"}, {list(num(16)), "10H"}, {list(num(255)), "0FFH"}, {list(num(65535)), "0FFFFH"},
		{list(text("a")), "'a'"}, {list(text("")), "''"}, {list(text("'")), "''''"}, {list(text("it's")), "'it''s'"}, {list(text(" ; ")), "' ; '"}, {list(text("1")), "'1'"}, {list(name("H1")), "H1"},
		{list(name("A"), num(1), text("b"), mark("+")), "A 1 'b' +"},
		{list(mark("("), mark(")")), "( )"}, {list(text("a"), text("b")), "'a' 'b'"}, {list(num(1), num(2)), "1 2"}, {list(name("X"), name("Y")), "X Y"},
		{list(text(""), text("")), "'' ''"}, {list(text(" "), text(" ")), "' ' ' '"},
		{list(Token{Kind: 1, S: "A", N: 5}), "A"}, {list(Token{Kind: 2, S: "A", N: 5}), "5"}, {list(Token{Kind: 3, S: "A", N: 5}), "'A'"}, {list(Token{Kind: 4, S: ",", N: 5}), ","}, // what else they hold is not shown
	}
	for _, m := range allMarks() {
		shows(t, list(mark(m)), m)
	}
	for _, r := range rows {
		shows(t, r.l, r.s)
	}
}

// P402: tokens that no line has.
func TestShowWrong(t *testing.T) {
	shows(t, list(name("a b"), mark("?!"), text("\x00\xff"), name("")), "a b ?! '\x00\xff' ")
	for _, kind := range []int{0, 5, -1, 1 << 40, -1 << 63} {
		shows(t, list(Token{kind, "A", 1}), "")
		shows(t, list(name("A"), Token{kind, "B", 1}, name("C")), "A  C")
	}
}

// P403: a part for each mark, and one more.
func TestCut(t *testing.T) {
	a, b, comma := name("A"), num(1), mark(",")
	cuts(t, nil, ",")
	cuts(t, list(), ",")
	cuts(t, list(comma), ",", nil, nil)
	cuts(t, list(a), ",", list(a))
	cuts(t, list(a, b), ",", list(a, b))
	cuts(t, list(a, comma, b), ",", list(a), list(b))
	cuts(t, list(comma, a), ",", nil, list(a))
	cuts(t, list(a, comma), ",", list(a), nil)
	cuts(t, list(a, comma, comma, b), ",", list(a), nil, list(b))
	cuts(t, list(comma, comma, comma), ",", nil, nil, nil, nil)
	cuts(t, list(a, b, comma, b, a, comma, a), ",", list(a, b), list(b, a), list(a))
	for _, m := range allMarks() {
		if l := list(a, mark(m), b); m == "," {
			cuts(t, l, m, list(a), list(b))
		} else {
			cuts(t, l, ",", l)
		}
	}
	for _, m := range strings.Split(",+-*/:$", "") {
		cuts(t, list(mark(m), a, mark(m)), m, nil, list(a), nil)
	}
}

// P403: what stands in parentheses or brackets is not looked at.
func TestCutWithin(t *testing.T) {
	rows := []struct {
		line  string
		parts []string
	}{
		{"(a,b)", []string{"(a,b)"}},
		{"[a,b]", []string{"[a,b]"}},
		{"(a,b),c", []string{"(a,b)", "c"}},
		{"a,[b,c],(d,e)", []string{"a", "[b,c]", "(d,e)"}},
		{"((a,b),c),d", []string{"((a,b),c)", "d"}},
		{"([a,b],c),d", []string{"([a,b],c)", "d"}},
		{"(a,b),(c),d", []string{"(a,b)", "(c)", "d"}},
		{"(),[]", []string{"()", "[]"}},
		{"(a,b", []string{"(a,b"}},
		{"a,(b,c", []string{"a", "(b,c"}},
		{"((a),b", []string{"((a),b"}},
		{"a),b", []string{"a)", "b"}},
		{"a),(b,c),d", []string{"a)", "(b,c)", "d"}},
		{"a)),(b,c),d", []string{"a))", "(b,c)", "d"}},
		{"]]],(,),[,],", []string{"]]]", "(,)", "[,]", ""}},
		{")(,),", []string{")(,)", ""}},
		{"(a],b", []string{"(a]", "b"}},
		{"[a),b", []string{"[a)", "b"}},
		{"([a),b],c", []string{"([a),b]", "c"}},
		{"(a)],(b,c]),d,e", []string{"(a)]", "(b,c])", "d", "e"}},
	}
	for _, r := range rows {
		var want [][]Token
		for _, p := range r.parts {
			want = append(want, of(t, p))
		}
		cuts(t, of(t, r.line), ",", want...)
	}
}

// P403: marks that count the depth part tokens themselves, where they stand at the first depth.
func TestCutByDepth(t *testing.T) {
	rows := []struct {
		line, by string
		parts    []string
	}{
		{"(", "(", []string{"", ""}}, {"[", "[", []string{"", ""}}, {")", ")", []string{"", ""}}, {"]", "]", []string{"", ""}},
		{"a(b", "(", []string{"a", "b"}}, {"a(b(c", "(", []string{"a", "b(c"}}, {"a(b)(c)", "(", []string{"a", "b)", "c)"}}, {"((a))(b", "(", []string{"", "(a))", "b"}},
		{"a[b(c[d", "[", []string{"a", "b(c[d"}}, {"(a[b)[c", "[", []string{"(a[b)[c"}}, {"(a[b))[c", "[", []string{"(a[b))", "c"}}, {"a[b)[c", "[", []string{"a", "b)", "c"}},
		{"(a)b", ")", []string{"(a", "b"}}, {"((a)b)c", ")", []string{"((a)b", "c"}}, {"a)b)c", ")", []string{"a", "b", "c"}}, {"))", ")", []string{"", "", ""}},
		{"[a]b", "]", []string{"[a", "b"}}, {"([a]b]c", "]", []string{"([a]b", "c"}}, {"(a]b", "]", []string{"(a", "b"}}, {"(a]b)c", ")", []string{"(a]b", "c"}}, {"[a)b)", "]", []string{"[a)b)"}},
		{"(a),(b", "(", []string{"", "a),", "b"}}, {")(a)(b", "(", []string{")", "a)", "b"}},
	}
	for _, r := range rows {
		var want [][]Token
		for _, p := range r.parts {
			want = append(want, of(t, p))
		}
		cuts(t, of(t, r.line), r.by, want...)
	}
}

// P403: marks alone part and are counted, not names or texts or numbers with their S.
func TestCutOtherKinds(t *testing.T) {
	a, comma := name("A"), mark(",")
	for _, kind := range []int{0, 1, 2, 3, 5, -4} {
		for _, m := range allMarks() {
			x := Token{Kind: kind, S: m}
			cuts(t, list(a, x, a), m, list(a, x, a))
			cuts(t, list(x), m, list(x))
			cuts(t, list(x, comma, x, comma, x), ",", list(x), list(x), list(x))
			cuts(t, list(mark("("), x, comma, a), ",", list(mark("("), x, comma, a))
			cuts(t, list(mark("["), x, comma, mark(")"), comma, a), ",", list(mark("["), x, comma, mark(")")), list(a))
		}
	}
	cuts(t, of(t, "',',',',','"), ",", list(text(",")), list(text(",")), list(text(",")))
	cuts(t, of(t, "a,'(',b"), ",", list(a), list(text("(")), list(name("B")))
}

// P403: what is no mark's text parts nothing, but a mark that has it.
func TestCutWrong(t *testing.T) {
	l := of(t, "A,'A',(1),+")
	for _, by := range []string{"", " ", "A", "1", "'A'", ",(", "()", ",,", "(1)", ";", "\xff", "a"} {
		cuts(t, l, by, l)
		cuts(t, nil, by)
		x := mark(by)
		cuts(t, list(name("A"), x, num(1)), by, list(name("A")), list(num(1)))
		cuts(t, list(mark("("), x, mark(")"), x), by, list(mark("("), x, mark(")")), nil)
	}
}

// depthAt: how deep a token stands: the marks that open ahead of it and stay, when pairs are struck out one by one.
func depthAt(l []Token, i int) int {
	s := ""
	for j, x := range l[:i+1] {
		switch {
		case x.Kind != 4:
		case x.S == ")" || x.S == "]":
			s += ")"
		case j < i && (x.S == "(" || x.S == "["):
			s += "("
		}
	}
	for strings.Contains(s, "()") {
		s = strings.Replace(s, "()", "", 1)
	}
	return strings.Count(s, "(")
}

// wantCut: the parts, by the depth of each token for itself.
func wantCut(l []Token, by string) [][]Token {
	if len(l) == 0 {
		return nil
	}
	var parts [][]Token
	from := 0
	for i, x := range l {
		if x == mark(by) && depthAt(l, i) == 0 {
			parts = append(parts, l[from:i])
			from = i + 1
		}
	}
	return append(parts, l[from:])
}

// P403: every list of a few tokens.
func TestCutEach(t *testing.T) {
	tokens := list(mark("("), mark(")"), mark("["), mark("]"), mark(","), text("("))
	eachList(tokens, 5, func(l []Token) {
		for _, by := range []string{",", "(", ")", "[", "]"} {
			cuts(t, l, by, wantCut(l, by)...)
		}
	})
	eachList(list(mark("("), mark("]"), mark(",")), 8, func(l []Token) {
		for _, by := range []string{",", "(", "]"} {
			cuts(t, l, by, wantCut(l, by)...)
		}
	})
}

// P403: depth has no end of its own.
func TestCutDeep(t *testing.T) {
	const n = 1 << 17
	l := slices.Concat(slices.Repeat(list(mark("(")), n), list(mark(",")), slices.Repeat(list(mark("]")), n))
	more := slices.Concat(l, list(mark(",")), list(name("A")))
	if got := Cut(more, ","); !sameParts(got, [][]Token{l, list(name("A"))}) {
		t.Errorf("Cut of %d deep: %d parts", n, len(got))
	}
	if got := Cut(slices.Repeat(list(mark(",")), n), ","); len(got) != n+1 {
		t.Errorf("Cut of %d marks: %d parts", n, len(got))
	}
	back := slices.Concat(slices.Repeat(list(mark(")")), n), list(mark("("), mark(","), mark(")"), mark(",")))
	if got := Cut(back, ","); len(got) != 2 || len(got[0]) != n+3 || len(got[1]) != 0 {
		t.Errorf("Cut behind %d marks that close: %d parts", n, len(got))
	}
}

// P404: what was shown is read as the same tokens.
func TestShownIsRead(t *testing.T) {
	tokens := list(name("A"), name("?1"), name("_H"), num(0), num(10), num(65535), text(""), text("'"), text("a;'' "), text("("))
	for _, m := range allMarks() {
		tokens = append(tokens, mark(m))
	}
	eachList(tokens, 3, func(l []Token) { reads(t, Show(l), l...) })
	for n := range 65536 {
		reads(t, Show(list(num(uint16(n)), name("H"))), num(uint16(n)), name("H"))
	}
	full := list(text(strings.Repeat("'", (api.MaxLine-2)/2)))
	reads(t, Show(full), full...)
}

// P404: every line of a few parts that has tokens is shown, read again, and shown alike.
func TestReadIsShown(t *testing.T) {
	eachText([]string{"a", "0", "1h", "'", "?", ":", "(", " ", ";", "$"}, 5, func(s string) {
		l, k := Line(s)
		if k != api.OK {
			return
		}
		shown := Show(l)
		reads(t, shown, l...)
		reads(t, strings.ToLower(shown), l...)
	})
}

// P404: spaces and tabs between tokens, ahead of them and behind them change nothing.
func TestSpaces(t *testing.T) {
	parts := strings.Split("l1|:|db|'it''s ;'|,|-|(|0ffh|)|*|[|$|+|x|]|/|2|,|''|;|x  y", "|")
	tight := "l1:db'it''s ;',-(0ffh)*[$+x]/2,'';x  y"
	want := of(t, tight)
	for _, space := range []string{"", " ", "  ", "\t", " \t", "\t\t "} {
		reads(t, strings.Join(parts, space), want...)
		reads(t, space+strings.Join(parts, space)+space, want...)
		reads(t, space+tight+space, want...)
	}
	reads(t, "a b", name("A"), name("B")) // but a space parts what would be one
	reads(t, "ab", name("AB"))
	reads(t, "1 2", num(1), num(2))
	reads(t, "12", num(12))
}

// Rule 4: what is handed in is not changed, its spare room neither, and not kept.
func TestHandedIn(t *testing.T) {
	room := of(t, "a,(b,c),d x y z")
	before := slices.Clone(room)
	l := room[:9]
	shown, parts := Show(l), Cut(l, ",")
	if !slices.Equal(room, before) {
		t.Errorf("what was handed in is %v now", room)
	}
	want := wantCut(slices.Clone(l), ",")
	clear(room)
	if shown != "A , ( B , C ) , D" || !sameParts(parts, want) {
		t.Errorf("what was answered is %q, %v now", shown, parts)
	}
}

// Rule 4: what is handed out is new memory, each list of it too, with its spare room.
func TestHandedOut(t *testing.T) {
	const s = "a,(b,c),,1,'d' e f"
	l, more := of(t, s), of(t, s)
	clear(l[:cap(l)])
	reads(t, s, more...)
	want := wantCut(slices.Clone(more), ",")
	for i := range want {
		parts, others := Cut(more, ","), Cut(more, ",")
		p := parts[i]
		clear(p[:cap(p)])
		parts[i] = want[i]
		if !sameParts(parts, want) || !sameParts(others, want) {
			t.Errorf("Cut: what is written into part %d is seen in another", i)
		}
		spare := parts[:cap(parts)]
		clear(spare)
		if !sameParts(others, want) || !slices.Equal(more, of(t, s)) {
			t.Error("Cut: what is written into its list is seen elsewhere")
		}
	}
}
