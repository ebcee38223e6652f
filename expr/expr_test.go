package expr

import (
	"slices"
	"strings"
	"testing"

	"pidgin/api"
	"pidgin/token"
)

func num(n uint16) api.Expr                      { return api.Expr{Op: "#", N: n} }
func sym(name string) api.Expr                   { return api.Expr{Op: "n", Name: name} }
func here() api.Expr                             { return api.Expr{Op: "$"} }
func op(name string, parts ...api.Expr) api.Expr { return api.Expr{Op: name, Sub: parts} }

func nameToken(s string) token.Token { return token.Token{Kind: 1, S: s} }
func numToken(n uint16) token.Token  { return token.Token{Kind: 2, N: n} }
func textToken(s string) token.Token { return token.Token{Kind: 3, S: s} }
func markToken(s string) token.Token { return token.Token{Kind: 4, S: s} }

// rank: an operator of two parts, and which line of the words it stands in.
type rank struct {
	op   string
	line int
}

// ranks: all operators of two parts; NOT is line 3.
func ranks() []rank {
	return []rank{{"OR", 1}, {"XOR", 1}, {"AND", 2}, {"+", 4}, {"-", 4}, {"*", 5}, {"/", 5}, {"MOD", 5}, {"SHL", 5}, {"SHR", 5}}
}

// words: the operators that can't be names.
func words() []string { return strings.Fields("OR XOR AND NOT MOD SHL SHR") }

// of: a text's tokens, read word by word, so that it may be longer than a line.
func of(t *testing.T, s string) []token.Token {
	t.Helper()
	var list []token.Token
	for from, at := 0, 0; at <= len(s); at++ {
		if word := s[from:at]; at == len(s) || s[at] == ' ' && strings.Count(word, "'")%2 == 0 {
			l, k := token.Line(word)
			if k != api.OK {
				t.Fatalf("Line of %q: kind %d", word, k)
			}
			list, from = append(list, l...), at
		}
	}
	return list
}

// reads: the tokens have this expression at their begin, of so many of them.
func reads(t *testing.T, l []token.Token, n int, want api.Expr) {
	t.Helper()
	if e, got, k := Parse(l); k != api.OK || got != n || !alike(e, want) {
		t.Errorf("Parse of %q: %v, %d tokens, kind %d, not %v, %d tokens", token.Show(l), e, got, k, want, n)
	}
	wantK := api.OK
	if n < len(l) {
		want, wantK = api.Expr{}, api.Syntax
	}
	if e, k := All(l); k != wantK || !alike(e, want) {
		t.Errorf("All of %q: %v, kind %d, not %v, kind %d", token.Show(l), e, k, want, wantK)
	}
}

// is: all of the line is this expression.
func is(t *testing.T, s string, want api.Expr) {
	t.Helper()
	l := of(t, s)
	reads(t, l, len(l), want)
}

// fails: the tokens have this error, and no expression comes.
func fails(t *testing.T, l []token.Token, want api.Kind) {
	t.Helper()
	if e, n, k := Parse(l); k != want || n != 0 || !alike(e, api.Expr{}) {
		t.Errorf("Parse of %q: %v, %d tokens, kind %d, not kind %d", token.Show(l), e, n, k, want)
	}
	if e, k := All(l); k != want || !alike(e, api.Expr{}) {
		t.Errorf("All of %q: %v, kind %d, not kind %d", token.Show(l), e, k, want)
	}
}

func failsLine(t *testing.T, s string, want api.Kind) {
	t.Helper()
	fails(t, of(t, s), want)
}

// shows: the expression has this text.
func shows(t *testing.T, e api.Expr, want string) {
	t.Helper()
	if s, k := Show(e); k != api.OK || s != want {
		t.Errorf("Show of %v: %q, kind %d, not %q", e, s, k, want)
	}
}

// noValue: what names have where the expression has none.
func noValue(name string) (uint16, api.Kind) { return 0, api.Undefined }

// comes: the expression has this value.
func comes(t *testing.T, e api.Expr, want uint16) {
	t.Helper()
	if n, k := Eval(e, 0x1234, noValue); k != api.OK || n != want {
		t.Errorf("Eval of %v: %d, kind %d, not %d", e, n, k, want)
	}
}

// evalFails: the expression has this error, where names have these values.
func evalFails(t *testing.T, e api.Expr, value func(string) (uint16, api.Kind), want api.Kind) {
	t.Helper()
	if n, k := Eval(e, 0x1234, value); k != want || n != 0 {
		t.Errorf("Eval of %v: %d, kind %d, not kind %d", e, n, k, want)
	}
}

// alike: held against each other apart from what the package does.
func alike(a, b api.Expr) bool {
	if a.Op != b.Op || a.N != b.N || a.Name != b.Name || len(a.Sub) != len(b.Sub) {
		return false
	}
	for i := range a.Sub {
		if !alike(a.Sub[i], b.Sub[i]) {
			return false
		}
	}
	return true
}

// copied: the same expression, of new memory.
func copied(e api.Expr) api.Expr {
	sub := make([]api.Expr, 0, len(e.Sub))
	for _, x := range e.Sub {
		sub = append(sub, copied(x))
	}
	e.Sub = sub
	return e
}

// eachList: every list of at most n of these tokens.
func eachList(tokens []token.Token, n int, do func(l []token.Token)) {
	var list []token.Token
	var more func(n int)
	more = func(n int) {
		do(list)
		if n == 0 {
			return
		}
		for _, x := range tokens {
			list = append(list, x)
			more(n - 1)
			list = list[:len(list)-1]
		}
	}
	more(n)
}

// chain: an expression that is nested so deep, by operators of one part, or by the left or the right part of such with two.
func chain(deep int, wrap func(e api.Expr) api.Expr) api.Expr {
	e := num(1)
	for range deep - 1 {
		e = wrap(e)
	}
	return e
}

// wraps: the ways to nest an expression one deeper.
func wraps() []func(e api.Expr) api.Expr {
	return []func(e api.Expr) api.Expr{
		func(e api.Expr) api.Expr { return op("NOT", e) },
		func(e api.Expr) api.Expr { return op("NEG", e) },
		func(e api.Expr) api.Expr { return op("+", e, num(2)) },
		func(e api.Expr) api.Expr { return op("-", num(2), e) },
		func(e api.Expr) api.Expr { return op("OR", e, sym("X")) },
		func(e api.Expr) api.Expr { return op("SHL", here(), e) },
	}
}

// The chapter's examples.
func TestExamples(t *testing.T) {
	e, k := All(of(t, "1 + 2 * 3"))
	comes(t, e, 7)
	f, j := All(of(t, "NOT 0 AND 0FH"))
	comes(t, f, 15)
	if k != api.OK || j != api.OK {
		t.Errorf("All: kinds %d, %d", k, j)
	}
	is(t, "( 1 + 2 ) * 3", op("*", op("+", num(1), num(2)), num(3)))
	shows(t, op("*", op("+", num(1), num(2)), num(3)), "( 1 + 2 ) * 3")
}

// P501: what an expression begins with.
func TestParseBegin(t *testing.T) {
	is(t, "0", num(0))
	is(t, "65535", num(65535))
	is(t, "0ffh", num(255))
	is(t, "'a'", num('a'))
	is(t, "''''", num('\''))
	is(t, "' '", num(' '))
	is(t, "'ab'", num('a'<<8|'b'))
	is(t, "'BA'", num('B'<<8|'A'))
	is(t, "'+'", num('+'))
	is(t, "'OR'", num('O'<<8|'R'))
	is(t, "$", here())
	is(t, "x", sym("X"))
	is(t, "?1", sym("?1"))
	is(t, "A123456789012345", sym("A123456789012345"))
	is(t, "(1)", num(1))
	is(t, "($)", here())
	is(t, "('a')", num('a'))
	is(t, "( ( x ) )", sym("X"))
	is(t, "not 1", op("NOT", num(1)))
	is(t, "-1", op("NEG", num(1)))
	for _, s := range []string{"\x00", "\xff", "\x80a", "é"} {
		l := []token.Token{textToken(s)}
		want := uint16(s[0])
		if len(s) == 2 {
			want = want<<8 | uint16(s[1])
		}
		reads(t, l, 1, num(want))
	}
}

// P501: names that are like operators' words, and are none.
func TestParseNames(t *testing.T) {
	for _, s := range strings.Fields("NEG N ORG ANDI XORI NOTE MODE SHL1 O R HIGH LOW EQ A B M SP PSW EQU SET DB NOP _OR OR_ ?AND @NOT") {
		is(t, s, sym(s))
		is(t, strings.ToLower(s), sym(s))
		is(t, "1 + "+s, op("+", num(1), sym(s)))
	}
	for _, s := range words() {
		failsLine(t, s, api.Syntax)
		failsLine(t, strings.ToLower(s), api.Syntax)
		failsLine(t, "( "+s+" )", api.Syntax)
		failsLine(t, "1 + "+s, api.Syntax)
		is(t, "'"+s[:2]+"'", num(uint16(s[0])<<8|uint16(s[1])))
		reads(t, []token.Token{textToken(s[:1]), textToken(s)}, 1, num(uint16(s[0])))
	}
}

// P501: no token, and what begins no expression.
func TestParseNone(t *testing.T) {
	fails(t, nil, api.Syntax)
	fails(t, []token.Token{}, api.Syntax)
	for _, s := range strings.Split(",)[]+*/:", "") {
		failsLine(t, s, api.Syntax)
		failsLine(t, s+" 1", api.Syntax)
		failsLine(t, "( "+s+" 1 )", api.Syntax)
		failsLine(t, "- "+s, api.Syntax)
		failsLine(t, "NOT "+s, api.Syntax)
	}
	for _, s := range []string{"()", "(())", "( ) 1", "[1]", "[ x ]", "+ 1", "* 1", "- + 1", ", 1", "1 + ( )"} {
		failsLine(t, s, api.Syntax)
	}
}

// P501: tokens that no line has begin nothing, and go on with nothing.
func TestParseWrongTokens(t *testing.T) {
	wrong := []token.Token{
		{}, {Kind: 0, S: "X", N: 1}, {Kind: 5, S: "X", N: 1}, {Kind: -1, S: "+"}, {Kind: 1 << 40, S: "("}, {Kind: -1 << 63, N: 1},
		nameToken(""), nameToken("x"), nameToken("Xy"), nameToken("1X"), nameToken("A B"), nameToken("A23456789012345678"), nameToken("+"), nameToken("-"), nameToken("("), nameToken("$"), nameToken("\xff"), nameToken("not"),
		markToken(""), markToken("NOT"), markToken("X"), markToken("OR"), markToken("--"), markToken("(("), markToken("1"), markToken("\xff"), markToken("#"),
	}
	for _, x := range wrong {
		fails(t, []token.Token{x}, api.Syntax)
		fails(t, []token.Token{x, numToken(1)}, api.Syntax)
		fails(t, []token.Token{markToken("("), numToken(1), x}, api.Syntax)
		fails(t, []token.Token{markToken("-"), x}, api.Syntax)
		fails(t, []token.Token{nameToken("NOT"), x}, api.Syntax)
		reads(t, []token.Token{numToken(1), x}, 1, num(1))
		reads(t, []token.Token{numToken(1), x, numToken(2)}, 1, num(1))
	}
	for _, r := range ranks() { // an operator's text, of another kind
		for _, kind := range []int{0, 1, 2, 3, 4, 5} {
			if x := (token.Token{Kind: kind, S: r.op}); x != of(t, r.op)[0] {
				reads(t, []token.Token{numToken(1), x, numToken(2)}, 1, num(1))
			}
		}
	}
	reads(t, []token.Token{{Kind: 2, S: "X", N: 7}}, 1, num(7)) // what else they hold means nothing
	reads(t, []token.Token{{Kind: 3, S: "a", N: 7}}, 1, num('a'))
	reads(t, []token.Token{{Kind: 1, S: "X", N: 7}}, 1, sym("X"))
	reads(t, []token.Token{{Kind: 4, S: "$", N: 7}, {Kind: 4, S: "+", N: 7}, {Kind: 1, S: "NOT", N: 7}}[:1], 1, here())
	reads(t, []token.Token{{Kind: 4, S: "-", N: 7}, numToken(1), {Kind: 1, S: "OR", N: 7}, numToken(2)}, 4, op("OR", op("NEG", num(1)), num(2)))
}

// P501: each operator, alone.
func TestParseOperator(t *testing.T) {
	for _, r := range ranks() {
		is(t, "1 "+r.op+" 2", op(r.op, num(1), num(2)))
		is(t, "x "+strings.ToLower(r.op)+" $", op(r.op, sym("X"), here()))
		is(t, "("+"1) "+r.op+" (2)", op(r.op, num(1), num(2)))
		failsLine(t, "1 "+r.op, api.Syntax)
		failsLine(t, "( 1 "+r.op+" )", api.Syntax)
		failsLine(t, "1 "+r.op+" ,", api.Syntax)
		if r.op != "-" {
			failsLine(t, r.op+" 1", api.Syntax)
			failsLine(t, "1 "+r.op+" "+r.op+" 1", api.Syntax)
		}
	}
	is(t, "not x", op("NOT", sym("X")))
	is(t, "- x", op("NEG", sym("X")))
	failsLine(t, "NOT", api.Syntax)
	failsLine(t, "-", api.Syntax)
	failsLine(t, "( NOT )", api.Syntax)
	failsLine(t, "( - )", api.Syntax)
}

// P501: each pair of operators side by side: what binds more first, of one line the left one first; parentheses ahead of both.
func TestParsePairs(t *testing.T) {
	a, b, c := num(1), num(2), num(3)
	for _, x := range ranks() {
		for _, y := range ranks() {
			left, right := op(y.op, op(x.op, a, b), c), op(x.op, a, op(y.op, b, c))
			want := left
			if y.line > x.line {
				want = right
			}
			is(t, "1 "+x.op+" 2 "+y.op+" 3", want)
			is(t, "(1 "+x.op+" 2) "+y.op+" 3", left)
			is(t, "1 "+x.op+" (2 "+y.op+" 3)", right)
			is(t, "(1 "+x.op+" 2 "+y.op+" 3)", want)
			if y.op != "-" {
				failsLine(t, "1 "+x.op+" "+y.op+" 3", api.Syntax)
			}
		}
	}
}

// P501: of three operators.
func TestParseThree(t *testing.T) {
	one, two, three, four := num(1), num(2), num(3), num(4)
	is(t, "1 - 2 - 3 - 4", op("-", op("-", op("-", one, two), three), four))
	is(t, "1 OR 2 AND 3 + 4", op("OR", one, op("AND", two, op("+", three, four))))
	is(t, "1 * 2 + 3 AND 4", op("AND", op("+", op("*", one, two), three), four))
	is(t, "1 * 2 OR 3 * 4", op("OR", op("*", one, two), op("*", three, four)))
	is(t, "1 + 2 * 3 - 4", op("-", op("+", one, op("*", two, three)), four))
	is(t, "1 XOR 2 OR 3 XOR 4", op("XOR", op("OR", op("XOR", one, two), three), four))
	is(t, "1 SHL 2 MOD 3 / 4", op("/", op("MOD", op("SHL", one, two), three), four))
}

// P501: NOT and - ahead of their part, with each operator beside it.
func TestParseAhead(t *testing.T) {
	a, b := num(1), num(2)
	for _, r := range ranks() {
		not, neg := op(r.op, op("NOT", a), b), op(r.op, op("NEG", a), b)
		if r.line > 3 {
			not = op("NOT", op(r.op, a, b))
		}
		is(t, "NOT 1 "+r.op+" 2", not)
		is(t, "(NOT 1) "+r.op+" 2", op(r.op, op("NOT", a), b))
		is(t, "NOT (1 "+r.op+" 2)", op("NOT", op(r.op, a, b)))
		is(t, "- 1 "+r.op+" 2", neg)
		is(t, "- (1 "+r.op+" 2)", op("NEG", op(r.op, a, b)))
		is(t, "1 "+r.op+" - 2", op(r.op, a, op("NEG", b)))
		is(t, "1 "+r.op+" - - 2", op(r.op, a, op("NEG", op("NEG", b))))
		is(t, "1 "+r.op+" (NOT 2)", op(r.op, a, op("NOT", b)))
		if r.line < 3 {
			is(t, "1 "+r.op+" NOT 2", op(r.op, a, op("NOT", b)))
			is(t, "1 "+r.op+" NOT NOT - 2", op(r.op, a, op("NOT", op("NOT", op("NEG", b)))))
		} else { // a part of what binds more than NOT can't be one
			failsLine(t, "1 "+r.op+" NOT 2", api.Syntax)
			failsLine(t, "1 "+r.op+" - NOT 2", api.Syntax)
		}
	}
}

// P501: NOT and - in a row.
func TestParseRow(t *testing.T) {
	x := sym("X")
	is(t, "NOT NOT x", op("NOT", op("NOT", x)))
	is(t, "- - x", op("NEG", op("NEG", x)))
	is(t, "---x", op("NEG", op("NEG", op("NEG", x))))
	is(t, "NOT - x", op("NOT", op("NEG", x)))
	is(t, "NOT - - x", op("NOT", op("NEG", op("NEG", x))))
	is(t, "- ( NOT x )", op("NEG", op("NOT", x)))
	failsLine(t, "- NOT x", api.Syntax)
	failsLine(t, "- - NOT x", api.Syntax)
	failsLine(t, "NOT - NOT x", api.Syntax)
	is(t, "x - - x", op("-", x, op("NEG", x)))
	is(t, "x - - - x", op("-", x, op("NEG", op("NEG", x))))
	is(t, "- x - x", op("-", op("NEG", x), x))
	is(t, "- x * - x", op("*", op("NEG", x), op("NEG", x)))
	is(t, "NOT x AND NOT x", op("AND", op("NOT", x), op("NOT", x)))
	is(t, "NOT x OR NOT x AND x", op("OR", op("NOT", x), op("AND", op("NOT", x), x)))
	is(t, "NOT - x + x", op("NOT", op("+", op("NEG", x), x)))
	is(t, "NOT x AND - x", op("AND", op("NOT", x), op("NEG", x)))
	failsLine(t, "NOT +", api.Syntax)
	failsLine(t, "NOT AND x", api.Syntax)
	failsLine(t, "- * x", api.Syntax)
	failsLine(t, "NOT + x", api.Syntax)
}

// P501: parentheses that are missing, and one too many.
func TestParseParentheses(t *testing.T) {
	for _, s := range []string{"(", "((", "( 1", "( ( 1 )", "1 + ( 2", "( 1 + 2", "( 1 2 )", "( 1 , 2 )", "( 1 ]", "( x $ )", "( 1 NOT 2 )", "( 1 ( 2 ) )", "( 1 : )", "(1 'a')", "- (", "NOT ( 1", "( 1 ) + ( 2", "( 1 + )", "( 1 - - )", "( ( 1 ) 2 )"} {
		failsLine(t, s, api.Syntax)
	}
	reads(t, of(t, "1 )"), 1, num(1))
	reads(t, of(t, "( 1 ) )"), 3, num(1))
	reads(t, of(t, "( 1 + 2 ) ) * 3"), 5, op("+", num(1), num(2)))
	reads(t, of(t, "- ( 1 ) ) )"), 4, op("NEG", num(1)))
}

// P501: the longest expression, and tokens behind it.
func TestParseBehind(t *testing.T) {
	starts := []struct {
		s string
		n int
		e api.Expr
	}{{"1", 1, num(1)}, {"( x )", 3, sym("X")}, {"1 + 2", 3, op("+", num(1), num(2))}, {"NOT $", 2, op("NOT", here())}, {"- ( 1 * 'a' )", 6, op("NEG", op("*", num(1), num('a')))}}
	behinds := []string{"2", "x", "$", "'a'", "''", "'abc'", "(", "( 2 )", ")", "[", "]", ",", ":", ", 2", "NOT", "NOT 2", ": x", "5 + ", ") + 1"}
	for _, a := range starts {
		is(t, a.s, a.e)
		for _, b := range behinds {
			reads(t, of(t, a.s+" "+b), a.n, a.e)
		}
	}
	reads(t, of(t, "1 2 3 4"), 1, num(1))
	reads(t, of(t, "1 + 2 x + 3"), 3, op("+", num(1), num(2)))
}

// P501: texts that are no number.
func TestParseTexts(t *testing.T) {
	for _, s := range []string{"''", "'abc'", "''''''''", "'  1'", "'" + strings.Repeat("x", 100) + "'"} {
		for _, around := range []string{"%", "( %", "( % )", "1 + %", "- %", "NOT % + 1", "% + 1", "% )", "1 AND ( - %"} {
			failsLine(t, strings.Replace(around, "%", s, 1), api.Range)
		}
	}
	fails(t, []token.Token{textToken(strings.Repeat("x", 1<<20))}, api.Range)
}

// P501: of two errors the first one from the left.
func TestParseFirstError(t *testing.T) {
	deep := strings.Repeat("- ", 2*api.MaxDeep+1)
	errs := []struct {
		s string
		k api.Kind
	}{{"''", api.Range}, {"'abc'", api.Range}, {"*", api.Syntax}, {"1 + )", api.Syntax}, {"( 1 2", api.Syntax}, {"- NOT", api.Syntax}, {deep, api.TooLarge}, {deep + "1", api.TooLarge}, {deep + "''", api.TooLarge}, {deep + ")", api.TooLarge}}
	for _, a := range errs {
		failsLine(t, a.s, a.k)
		for _, b := range errs {
			failsLine(t, a.s+" + "+b.s, a.k)
			failsLine(t, "1 + "+a.s+" ) "+b.s, a.k)
			failsLine(t, "NOT ( 1 AND "+a.s+" ) + ( "+b.s+" )", a.k)
			failsLine(t, "( 1 ) OR ( "+a.s+" , "+b.s, a.k)
		}
	}
	failsLine(t, "( 1 + 2 ''", api.Syntax) // behind an expression a text is not looked at
	failsLine(t, "( 1 ''", api.Syntax)
}

// P501: nested as deep as may be, and one deeper, in each way.
func TestParseDeep(t *testing.T) {
	for i, wrap := range wraps() {
		for _, deep := range []int{1, 2, api.MaxDeep - 1, api.MaxDeep} {
			e := chain(deep, wrap)
			s, k := Show(e)
			if k != api.OK {
				t.Errorf("Show of way %d, %d deep: kind %d", i, deep, k)
			}
			is(t, s, e)
			is(t, "( "+s+" )", e) // parentheses alone make nothing deeper
		}
		s, _ := Show(chain(api.MaxDeep, wrap))
		for _, around := range []string{"- ( % )", "NOT ( % )", "( % ) + 1", "1 + ( % )", "( % ) AND ( % )"} {
			failsLine(t, strings.ReplaceAll(around, "%", s), api.TooLarge)
		}
	}
	sum := strings.Repeat("1 + ", api.MaxDeep)
	failsLine(t, sum+"1", api.TooLarge)
	failsLine(t, sum+"1 2", api.TooLarge) // All, too, tells what Parse does, ahead of tokens that are left
	failsLine(t, sum, api.Syntax)         // what stands there is told ahead of what is too deep
	failsLine(t, sum+"''", api.Range)
	failsLine(t, "( "+sum+"1", api.Syntax)
	failsLine(t, "1 * "+sum+"1 + "+strings.Repeat("( ", 2*api.MaxDeep+1)+"1", api.TooLarge)
	is(t, sum[4:]+"1", chain(api.MaxDeep, func(e api.Expr) api.Expr { return op("+", e, num(1)) }))
}

// opener: as many parentheses, NOT and - as wanted, one of each in turn.
func opener(n int, by ...string) (string, int) {
	s, parens := "", 0
	for i := range n {
		if by[i%len(by)] == "(" {
			parens++
		}
		s += by[i%len(by)] + " "
	}
	return s, parens
}

// P501: twice MaxDeep parentheses, NOT and - open, and one more.
func TestParseOpen(t *testing.T) {
	const most = 2 * api.MaxDeep
	rows := [][]string{{"("}, {"-"}, {"NOT"}, {"-", "("}, {"(", "-"}, {"NOT", "("}, {"(", "NOT"}, {"NOT", "-", "("}, {"(", "(", "(", "NOT", "-"}, {"(", "(", "-"}}
	for _, by := range rows {
		for _, n := range []int{most - 1, most, most + 1, most + 2, 5 * most} {
			s, parens := opener(n, by...)
			closed := s + "1" + strings.Repeat(" )", parens)
			switch {
			case n > most:
				for _, x := range []string{s, s + "1", closed, s + "''", s + ")", s + "*", closed + " 1"} {
					failsLine(t, x, api.TooLarge)
				}
			case n-parens >= api.MaxDeep:
				failsLine(t, closed, api.TooLarge) // not by what is open
				fallthrough
			default:
				failsLine(t, s, api.Syntax)
				failsLine(t, s+"''", api.Range)
				failsLine(t, s+")", api.Syntax)
			}
		}
	}
	full := strings.Repeat("( ", most)
	back := strings.Repeat(" )", most)
	is(t, full+"1"+back, num(1))
	is(t, full+"1 + 2"+back, op("+", num(1), num(2)))
	is(t, full[2:]+"- 1"+back[2:], op("NEG", num(1)))
	is(t, full[2:]+"NOT 1"+back[2:], op("NOT", num(1)))
	failsLine(t, full+"- 1"+back, api.TooLarge)
	failsLine(t, full+"NOT 1"+back, api.TooLarge)
	failsLine(t, full+"( 1 )"+back, api.TooLarge)
	failsLine(t, full+"1 + - 1"+back, api.TooLarge)
	failsLine(t, full+"1 AND NOT 1"+back, api.TooLarge)
	failsLine(t, full+"1 * ( 1 )"+back, api.TooLarge)
}

// P501: what is no longer open is not counted; what still is, is.
func TestParseOpenAgain(t *testing.T) {
	const most = 2 * api.MaxDeep
	full, back := strings.Repeat("( ", most), strings.Repeat(" )", most)
	is(t, full+"1"+back+" + "+full+"2"+back, op("+", num(1), num(2)))
	is(t, "- 1 * "+full+"2"+back, op("*", op("NEG", num(1)), num(2)))
	is(t, "NOT 1 AND "+full+"2"+back, op("AND", op("NOT", num(1)), num(2)))
	is(t, "( NOT 1 ) + "+full+"2"+back, op("+", op("NOT", num(1)), num(2)))
	is(t, "( 1 + "+full[2:]+"2"+back[2:]+" ) * "+full+"3"+back, op("*", op("+", num(1), num(2)), num(3)))
	failsLine(t, "NOT 1 + "+full+"2"+back, api.TooLarge)
	is(t, "NOT 1 + "+full[2:]+"2"+back[2:], op("NOT", op("+", num(1), num(2))))
	failsLine(t, "( 1 + "+full+"2"+back+" )", api.TooLarge)
	many := strings.Repeat("- ( NOT ( 1 ) ) OR ", 100) + "1"
	failsLine(t, many, api.TooLarge) // by its nesting
	failsLine(t, many+" +", api.Syntax)
}

// P501: long lists end, as they must.
func TestParseLong(t *testing.T) {
	const n = 1 << 17
	row := func(l ...token.Token) []token.Token { return slices.Repeat(l, n) }
	one, plus, open, not := numToken(1), markToken("+"), markToken("("), nameToken("NOT")
	fails(t, append(row(one, plus), one), api.TooLarge)
	fails(t, row(one, plus), api.Syntax)
	fails(t, append(row(one, plus), textToken("")), api.Range)
	fails(t, append(row(one, nameToken("AND"), not), one), api.TooLarge)
	fails(t, row(open), api.TooLarge)
	fails(t, row(not), api.TooLarge)
	fails(t, row(markToken("-")), api.TooLarge)
	reads(t, row(one), 1, num(1))
	reads(t, append([]token.Token{one}, row(markToken(")"))...), 1, num(1))
}

// P502: what is right.
func TestRight(t *testing.T) {
	rows := []api.Expr{num(0), num(65535), here(), sym("X"), sym("?"), sym("@"), sym("_9"), sym("NEG"), sym("N"), sym("ABCDEFGHIJKLMNOP"), sym("A"), sym("PSW"), sym("ORG"),
		op("NOT", num(1)), op("NEG", here()), op("-", num(1), op("NEG", sym("X"))), op("NOT", op("OR", sym("X"), sym("X"))),
		{Op: "#", N: 1, Sub: []api.Expr{}}, {Op: "$", Sub: []api.Expr{}}, {Op: "n", Name: "X", Sub: []api.Expr{}}}
	for _, r := range ranks() {
		rows = append(rows, op(r.op, num(0), sym("X")), op(r.op, op(r.op, here(), here()), op("NOT", num(1))))
	}
	for _, wrap := range wraps() {
		rows = append(rows, chain(api.MaxDeep, wrap))
	}
	for _, e := range rows {
		if k := Right(e); k != api.OK {
			t.Errorf("Right of %v: kind %d", e, k)
		}
		if _, k := Show(e); k != api.OK {
			t.Errorf("Show of %v: kind %d", e, k)
		}
	}
}

// notRight: expressions that are not, in each of the ways there are.
func notRight() []api.Expr {
	one := num(1)
	list := []api.Expr{{}, {N: 1}, {Name: "X"}, op(""), op("", one), op("?", one), op("N", one), {Op: "N", Name: "X"}, {Op: "## ", N: 1}}
	for _, name := range strings.Fields("or Or not Not neg mod shl shr and xor % & ** ++ ( ) , : [ ] = HIGH LOW EQ OR. #1 nn $$ 1 X \xff") {
		list = append(list, op(name), op(name, one), op(name, one, one)) // no operator
	}
	leaves := []api.Expr{one, here(), sym("X")}
	for _, e := range leaves { // what has no parts, with some
		e.Sub = []api.Expr{one}
		list = append(list, e)
		e.Sub = []api.Expr{one, one}
		list = append(list, e)
	}
	for _, r := range ranks() {
		list = append(list, op(r.op), op(r.op, one), op(r.op, one, one, one))
		list = append(list, api.Expr{Op: r.op, N: 1, Sub: []api.Expr{one, one}}, api.Expr{Op: r.op, Name: "X", Sub: []api.Expr{one, one}})
		list = append(list, op(r.op, api.Expr{}, one), op(r.op, one, api.Expr{}), op(r.op, op("+", one), one), op(r.op, one, sym("x")))
	}
	for _, s := range []string{"NOT", "NEG"} {
		list = append(list, op(s), op(s, one, one), api.Expr{Op: s, N: 1, Sub: []api.Expr{one}}, api.Expr{Op: s, Name: "X", Sub: []api.Expr{one}}, op(s, api.Expr{}), op(s, op(s)))
	}
	list = append(list, api.Expr{Op: "#", N: 1, Name: "X"}, api.Expr{Op: "$", N: 1}, api.Expr{Op: "$", Name: "X"}, api.Expr{Op: "n", Name: "X", N: 1}, api.Expr{Op: "n"}, api.Expr{Op: "n", N: 1})
	for _, s := range append(words(), "x", "Xy", "1", "1X", "A B", "A+B", " X", "X ", "ABCDEFGHIJKLMNOPQ", "\xff", "É", "X\x00", "$", "#", "n") {
		list = append(list, sym(s))
	}
	for _, wrap := range wraps() {
		list = append(list, chain(api.MaxDeep+1, wrap), chain(api.MaxDeep+2, wrap), chain(1000, wrap))
	}
	return list
}

// P502, P503, P504: what is not right is told, by each of them, whether it is all or a part.
func TestNotRight(t *testing.T) {
	for _, e := range notRight() {
		for _, x := range []api.Expr{e, op("NOT", e), op("+", e, num(1)), op("/", num(1), e), op("OR", op("NEG", op("-", num(1), e)), num(2))} {
			if k := Right(x); k != api.Syntax {
				t.Errorf("Right of %v: kind %d", x, k)
			}
			if s, k := Show(x); k != api.Syntax || s != "" {
				t.Errorf("Show of %v: %q, kind %d", x, s, k)
			}
			evalFails(t, x, noValue, api.Syntax)
			evalFails(t, x, nil, api.Syntax)
			evalFails(t, op("+", op("/", num(1), num(0)), x), nil, api.Syntax) // ahead of any other error
		}
	}
}

// P502: what is deep, or has parts that are one another's, ends.
func TestRightEnds(t *testing.T) {
	for _, wrap := range wraps() {
		if k := Right(chain(1<<16, wrap)); k != api.Syntax {
			t.Errorf("Right of %d deep: kind %d", 1<<16, k)
		}
	}
	both := num(1)
	for range 100 { // each part stands there twice
		both = op("+", both, both)
	}
	if k := Right(both); k != api.Syntax {
		t.Errorf("Right of a wide one: kind %d", k)
	}
	ring := op("+", num(1), num(2))
	ring.Sub[1] = ring
	if n, k := Eval(ring, 0, noValue); k != api.Syntax || n != 0 || Right(ring) != api.Syntax {
		t.Errorf("Eval of a ring: %d, kind %d", n, k)
	}
	wide := op("+", slices.Repeat([]api.Expr{num(1)}, 1<<20)...)
	if k := Right(wide); k != api.Syntax {
		t.Errorf("Right of %d parts: kind %d", len(wide.Sub), k)
	}
}

// P502: where one thing alone differs.
func TestSame(t *testing.T) {
	list := []api.Expr{
		{}, num(0), num(1), num(256), here(), sym("X"), sym("Y"), sym(""), sym("x"), {Op: "#", N: 1, Name: "X"}, {Op: "n", Name: "X", N: 1}, {Op: "$", N: 1}, {Name: "X"}, {N: 1},
		op("NOT", num(1)), op("NEG", num(1)), op("NOT", num(2)), op("NOT", sym("X")), op("NOT"), op("NOT", num(1), num(1)), op("#"), op("#", num(0)), {Op: "NOT", N: 1, Sub: []api.Expr{num(1)}}, {Op: "NOT", Name: "X", Sub: []api.Expr{num(1)}},
		op("+", num(1), num(2)), op("+", num(2), num(1)), op("+", num(1)), op("+", num(1), num(2), num(3)), op("-", num(1), num(2)), op("+", num(1), sym("X")), op("+", here(), num(2)), op("+", num(1), op("NEG", num(2))),
		op("+", op("+", num(1), num(2)), num(3)), op("+", num(1), op("+", num(2), num(3))), op("+", op("+", num(1), num(2)), num(4)), op("+", op("-", num(1), num(2)), num(3)),
	}
	same := func(e api.Expr) bool { return alike(e, num(0)) || alike(e, op("#")) }
	for i, a := range list {
		for j, b := range list {
			want := i == j || same(a) && same(b)
			if got := Same(a, copied(b)); got != want {
				t.Errorf("Same of %v and %v: %t", a, b, got)
			}
		}
	}
	for _, e := range notRight() {
		if !Same(e, copied(e)) {
			t.Errorf("Same of %v and its copy: false", e)
		}
	}
	if !Same(api.Expr{Op: "$", Sub: []api.Expr{}}, here()) || !Same(here(), api.Expr{Op: "$", Sub: make([]api.Expr, 0, 5)}) {
		t.Error("Same: a list without an element may be nil or empty")
	}
	deep := chain(1<<16, func(e api.Expr) api.Expr { return op("NEG", e) })
	if !Same(deep, copied(deep)) || Same(deep, deep.Sub[0]) {
		t.Errorf("Same of %d deep", 1<<16)
	}
}

// P502: the names, from the left, each as often as it stands there.
func TestNames(t *testing.T) {
	a, b, c := sym("A"), sym("B"), sym("C")
	rows := []struct {
		e     api.Expr
		names string
	}{
		{num(1), ""}, {here(), ""}, {api.Expr{}, ""}, {op("NEG", num(1)), ""}, {op("+", num(1), here()), ""},
		{a, "A"}, {op("NOT", a), "A"}, {op("+", a, b), "A B"}, {op("+", b, a), "B A"}, {op("*", a, a), "A A"},
		{op("+", op("-", c, a), op("*", b, a)), "C A B A"}, {op("OR", a, op("AND", num(5), op("NOT", a))), "A A"}, {op("SHL", op("NEG", op("+", num(1), c)), op("+", here(), b)), "C B"},
		{op("?", a, b, c), "A B C"}, {op("", op("+", c)), "C"}, {op("NOT", sym("x"), sym("OR")), "x OR"}, // of what is not right, too
		{api.Expr{Op: "+", Name: "X", Sub: []api.Expr{a, b}}, "A B"}, {api.Expr{Op: "#", Name: "X"}, ""}, {api.Expr{Op: "$", Name: "X"}, ""}, {api.Expr{Name: "X"}, ""},
	}
	for _, r := range rows {
		if got := Names(r.e); !slices.Equal(got, strings.Fields(r.names)) {
			t.Errorf("Names of %v: %q, not %q", r.e, got, r.names)
		}
	}
	for i, wrap := range []func(e api.Expr) api.Expr{
		func(e api.Expr) api.Expr { return op("+", e, a) },
		func(e api.Expr) api.Expr { return op("+", a, e) },
	} {
		if got := Names(chain(1<<16, wrap)); len(got) != 1<<16-1 || strings.Join(got, "") != strings.Repeat("A", 1<<16-1) {
			t.Errorf("Names of way %d: %d", i, len(got))
		}
	}
}

// P503: tokens with one space between.
func TestShow(t *testing.T) {
	one, two, x := num(1), num(2), sym("X")
	rows := []struct {
		e api.Expr
		s string
	}{
		{num(0), "0"}, {num(9), "9"}, {num(10), "0AH"}, {num(16), "10H"}, {num(255), "0FFH"}, {num(65535), "0FFFFH"}, {num('a'), "61H"}, {here(), "$"}, {x, "X"}, {sym("?1"), "?1"}, {sym("NEG"), "NEG"},
		{op("NOT", one), "NOT 1"}, {op("NEG", one), "- 1"}, {op("NEG", op("NEG", x)), "- - X"}, {op("NOT", op("NOT", here())), "NOT NOT $"}, {op("NOT", op("NEG", one)), "NOT - 1"}, {op("NEG", op("NOT", one)), "- ( NOT 1 )"},
		{op("-", one, op("NEG", two)), "1 - - 2"}, {op("NEG", op("-", one, two)), "- ( 1 - 2 )"}, {op("-", op("NEG", one), two), "- 1 - 2"},
		{op("*", op("NEG", one), op("NEG", two)), "- 1 * - 2"}, {op("NEG", op("*", one, two)), "- ( 1 * 2 )"},
		{op("AND", op("NOT", one), op("NOT", two)), "NOT 1 AND NOT 2"}, {op("NOT", op("AND", one, two)), "NOT ( 1 AND 2 )"}, {op("NOT", op("+", one, two)), "NOT 1 + 2"}, {op("+", op("NOT", one), two), "( NOT 1 ) + 2"}, {op("+", one, op("NOT", two)), "1 + ( NOT 2 )"},
		{op("/", op("SHL", x, one), op("MOD", x, two)), "X SHL 1 / ( X MOD 2 )"}, {op("XOR", op("OR", x, one), op("AND", x, two)), "X OR 1 XOR X AND 2"},
		{op("-", op("-", one, two), x), "1 - 2 - X"}, {op("-", one, op("-", two, x)), "1 - ( 2 - X )"}, {op("+", op("*", one, two), op("/", one, two)), "1 * 2 + 1 / 2"},
		{op("*", op("*", op("+", one, two), op("+", one, two)), x), "( 1 + 2 ) * ( 1 + 2 ) * X"},
	}
	for _, r := range rows {
		shows(t, r.e, r.s)
	}
}

// P503: each operator within each other, on both sides.
func TestShowPairs(t *testing.T) {
	a, b, c := num(1), num(2), num(3)
	for _, out := range ranks() {
		for _, in := range ranks() {
			inner := "2 " + in.op + " 3"
			left, right := inner+" "+out.op+" 1", "1 "+out.op+" "+inner
			if in.line < out.line {
				left = "( " + inner + " ) " + out.op + " 1"
			}
			if in.line <= out.line {
				right = "1 " + out.op + " ( " + inner + " )"
			}
			shows(t, op(out.op, op(in.op, b, c), a), left)
			shows(t, op(out.op, a, op(in.op, b, c)), right)
		}
		not, neg := "NOT 2", "- 2"
		if out.line > 3 {
			not = "( NOT 2 )"
		}
		shows(t, op(out.op, op("NOT", b), a), not+" "+out.op+" 1")
		shows(t, op(out.op, a, op("NOT", b)), "1 "+out.op+" "+not)
		shows(t, op(out.op, op("NEG", b), a), neg+" "+out.op+" 1")
		shows(t, op(out.op, a, op("NEG", b)), "1 "+out.op+" "+neg)
		inner := "1 " + out.op + " 2"
		shows(t, op("NEG", op(out.op, a, b)), "- ( "+inner+" )")
		if out.line < 3 {
			inner = "( " + inner + " )"
		}
		shows(t, op("NOT", op(out.op, a, b)), "NOT "+inner)
	}
}

// eachExpr: every expression at most so deep, of these leaves, and each operator.
func eachExpr(deep int, leaves ...api.Expr) []api.Expr {
	list := slices.Clone(leaves)
	if deep == 1 {
		return list
	}
	parts := eachExpr(deep-1, leaves...)
	for _, a := range parts {
		list = append(list, op("NOT", a), op("NEG", a))
		for _, r := range ranks() {
			for _, b := range parts {
				list = append(list, op(r.op, a, b))
			}
		}
	}
	return list
}

// TestShown, P503 and P505: what is shown is read as the same, in the tokens' own text, and no two parentheses of it may go.
func TestShown(t *testing.T) {
	for _, e := range append(eachExpr(3, num(1)), eachExpr(2, num(10), here(), sym("X"), sym("NEG"))...) {
		s, k := Show(e)
		l := of(t, s)
		if k != api.OK || token.Show(l) != s {
			t.Errorf("Show of %v: %q, kind %d", e, s, k)
		}
		if got, k := All(l); k != api.OK || !alike(got, e) || !Same(got, e) {
			t.Errorf("All of %q: %v, kind %d, not %v", s, got, k, e)
		}
		for i, x := range l {
			if x != markToken("(") {
				continue
			}
			j := closes(l, i)
			less := slices.Concat(l[:i], l[i+1:j], l[j+1:])
			if got, k := All(less); k == api.OK && alike(got, e) {
				t.Errorf("Show of %v: %q, but %q would do", e, s, token.Show(less))
			}
		}
	}
}

// closes: where the parenthesis ends that begins there.
func closes(l []token.Token, i int) int {
	for depth := 0; ; i++ {
		switch l[i] {
		case markToken("("):
			depth++
		case markToken(")"):
			if depth--; depth == 0 {
				return i
			}
		}
	}
}

// P505: what is as deep as may be, of each two ways in turn, is shown and read again.
func TestShownDeep(t *testing.T) {
	for _, first := range wraps() {
		for _, second := range wraps() {
			turn := 0
			e := chain(api.MaxDeep, func(e api.Expr) api.Expr {
				turn++
				if turn%2 == 0 {
					return first(e)
				}
				return second(e)
			})
			s, k := Show(e)
			if k != api.OK {
				t.Errorf("Show of %v: kind %d", e, k)
			}
			is(t, s, e)
		}
	}
}

// P504: numbers, $, names.
func TestEvalLeaf(t *testing.T) {
	value := func(name string) (uint16, api.Kind) {
		if name == "X" {
			return 0xbeef, api.OK
		}
		return 5, api.Kind(len(name)) // a number beside a kind is none
	}
	for _, h := range []uint16{0, 1, 0x8000, 65535} {
		for n, want := range map[string]uint16{"$": h, "X": 0xbeef, "1": 1, "0FFFFH": 65535, "$ + 1": h + 1, "X - X": 0, "- $": -h} {
			e, _ := All(of(t, n))
			if got, k := Eval(e, h, value); k != api.OK || got != want {
				t.Errorf("Eval of %s at %d: %d, kind %d, not %d", n, h, got, k, want)
			}
		}
	}
	for _, k := range []api.Kind{1, 2, 3, 4, 11, 14, 99, -1} {
		evalFails(t, op("NEG", sym("Z")), func(string) (uint16, api.Kind) { return 7, k }, k)
	}
	evalFails(t, sym("ABC"), value, 3)
	evalFails(t, sym("A"), nil, api.Undefined)
	evalFails(t, op("*", num(0), sym("A")), nil, api.Undefined)
	if n, k := Eval(op("+", num(1), here()), 2, nil); k != api.OK || n != 3 {
		t.Errorf("Eval without a name, value nil: %d, kind %d", n, k)
	}
	evalFails(t, sym("A"), func(string) (uint16, api.Kind) { panic("no value") }, api.Undefined)
}

// P504: value is asked for names alone, as they stand there.
func TestEvalAsks(t *testing.T) {
	var asked []string
	value := func(name string) (uint16, api.Kind) {
		asked = append(asked, name)
		return uint16(len(asked)), api.OK
	}
	e := op("+", op("*", sym("B"), num(10)), op("-", sym("A"), op("NEG", sym("B"))))
	if n, k := Eval(e, 0, value); k != api.OK || n != 10+2+3 || !slices.Equal(asked, []string{"B", "A", "B"}) {
		t.Errorf("Eval of %v: %d, kind %d, asked for %q", e, n, k, asked)
	}
}

// wanted: an operator's number, by whole numbers.
func wanted(name string, a, b int) int {
	switch name {
	case "OR":
		return a | b
	case "XOR":
		return a&^b + b&^a
	case "AND":
		return a & b
	case "+":
		return a + b
	case "-":
		return a - b + 65536
	case "*":
		return a * b
	case "/":
		return a / b
	case "MOD":
		return a - a/b*b
	}
	for range min(b, 16) {
		if name == "SHL" {
			a *= 2
		} else {
			a /= 2
		}
	}
	return a
}

// P504: each operator, by the lowest 16 bits.
func TestEvalOperators(t *testing.T) {
	edges := []uint16{0, 1, 2, 3, 7, 8, 15, 16, 17, 32, 63, 64, 255, 256, 257, 0x5555, 0x7fff, 0x8000, 0x8001, 0xaaaa, 0xff00, 0xfffe, 0xffff}
	for _, r := range ranks() {
		for _, a := range edges {
			for _, b := range edges {
				e := op(r.op, num(a), num(b))
				if b == 0 && (r.op == "/" || r.op == "MOD") {
					evalFails(t, e, noValue, api.Range)
					continue
				}
				comes(t, e, uint16(wanted(r.op, int(a), int(b))%65536))
			}
		}
	}
	for n := range 65536 {
		comes(t, op("NOT", num(uint16(n))), uint16(65535-n))
		comes(t, op("NEG", num(uint16(n))), uint16((65536-n)%65536))
	}
}

// P504: what the document names, by hand.
func TestEvalByHand(t *testing.T) {
	rows := []struct {
		s string
		n uint16
	}{
		{"0FFFFH + 1", 0}, {"0 - 1", 65535}, {"1 - 2 - 3", 65532}, {"300 * 300", 24464}, {"0FFFFH * 0FFFFH", 1}, {"65535 / 2", 32767}, {"65535 MOD 10", 5}, {"7 MOD 7", 0}, {"0 / 5", 0},
		{"1 SHL 0", 1}, {"1 SHL 1", 2}, {"1 SHL 15", 32768}, {"3 SHL 15", 32768}, {"1 SHL 16", 0}, {"65535 SHL 17", 0}, {"65535 SHL 65535", 0}, {"1 SHL 64", 0}, {"1 SHL 256", 0},
		{"65535 SHR 0", 65535}, {"65535 SHR 1", 32767}, {"65535 SHR 15", 1}, {"65535 SHR 16", 0}, {"65535 SHR 65535", 0}, {"65535 SHR 64", 0}, {"32768 SHR 15", 1},
		{"NOT 0", 65535}, {"NOT 0FF00H", 255}, {"- 0", 0}, {"- 1", 65535}, {"- 8000H", 32768}, {"- 1 / 2", 32767}, {"- ( 1 / 2 )", 0}, {"- 1 SHR 8", 255}, {"NOT 1 + 1", 65533}, {"( NOT 1 ) + 1", 65535},
		{"0F0H OR 0FH", 255}, {"0FFH XOR 0FH", 240}, {"0FFH AND 3CH", 60}, {"1 OR 2 AND 0", 1}, {"( 1 OR 2 ) AND 0", 0}, {"'ab' - 'a' * 256", 98}, {"20 - 6 - 4", 10}, {"20 - ( 6 - 4 )", 18}, {"100 / 10 / 5", 2}, {"100 / ( 10 / 5 )", 50}, {"2 SHL 3 SHL 1", 32}, {"2 SHL ( 3 SHL 1 )", 128}, {"17 MOD 10 MOD 4", 3}, {"$ + 1", 0x1235}, {"$ SHR 8", 0x12},
	}
	for _, r := range rows {
		e, k := All(of(t, r.s))
		if k != api.OK {
			t.Errorf("All of %q: kind %d", r.s, k)
		}
		comes(t, e, r.n)
	}
}

// P504: of several errors the leftmost one's, a division's own behind its parts'.
func TestEvalFirstError(t *testing.T) {
	value := func(name string) (uint16, api.Kind) {
		return 3, map[string]api.Kind{"U": api.Undefined, "D": api.Duplicate, "F": api.Fault}[name]
	}
	rows := []struct {
		s string
		k api.Kind
	}{
		{"u", api.Undefined}, {"u + d", api.Undefined}, {"d + u", api.Duplicate}, {"f - ( d - u )", api.Fault}, {"x + x * f - u", api.Fault}, {"- ( NOT d )", api.Duplicate}, {"x AND NOT u OR d", api.Undefined},
		{"1 / 0", api.Range}, {"1 MOD 0", api.Range}, {"0 / 0", api.Range}, {"0 MOD 0", api.Range}, {"1 / ( x - 3 )", api.Range}, {"1 MOD ( 2 - 2 )", api.Range}, {"- ( 1 / 0 )", api.Range}, {"0 AND 1 / 0", api.Range}, {"0 * ( 1 MOD 0 )", api.Range},
		{"u / 0", api.Undefined}, {"u MOD 0", api.Undefined}, {"1 / d", api.Duplicate}, {"1 MOD f", api.Fault}, {"1 / ( u * 0 )", api.Undefined}, {"u / ( 1 / 0 )", api.Undefined}, {"( 1 / 0 ) / u", api.Range}, {"1 / ( 1 MOD 0 )", api.Range},
		{"1 / 0 + u", api.Range}, {"u + 1 / 0", api.Undefined}, {"1 MOD 0 OR d", api.Range}, {"d OR 1 MOD 0", api.Duplicate}, {"1 / ( 0 * d ) + u", api.Duplicate}, {"x / 0 / u", api.Range}, {"( x / 1 ) / ( d / 0 )", api.Duplicate},
	}
	for _, r := range rows {
		e, k := All(of(t, r.s))
		if k != api.OK {
			t.Errorf("All of %q: kind %d", r.s, k)
		}
		evalFails(t, e, value, r.k)
	}
}
