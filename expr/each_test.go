package expr

import (
	"slices"
	"strings"
	"testing"

	"pidgin/api"
	"pidgin/token"
)

// lineOf: in which line of the words an operator of two parts stands; 0: in none.
func lineOf(x token.Token) int {
	for _, r := range ranks() {
		if x == nameToken(r.op) && r.line != 4 && x.S >= "A" || x == markToken(r.op) && x.S < "A" {
			return r.line
		}
	}
	return 0
}

// wholly: the expression of that line of the words, or a later one, that all of the tokens are: looked for by every cut there is.
func wholly(l []token.Token, line int) (api.Expr, bool) {
	if len(l) == 0 {
		return api.Expr{}, false
	}
	first, last := l[0], len(l)-1
	switch line {
	case 3, 6:
		ahead, name := nameToken("NOT"), "NOT"
		if line == 6 {
			ahead, name = markToken("-"), "NEG"
		}
		if first == ahead {
			e, ok := wholly(l[1:], line)
			return op(name, e), ok
		}
	case 7:
		if last > 0 && first == markToken("(") && l[last] == markToken(")") {
			return wholly(l[1:last], 1)
		}
		if last > 0 {
			return api.Expr{}, false
		}
		return leafOf(first)
	default:
		for i, x := range l {
			if lineOf(x) != line || !balanced(l[:i]) {
				continue
			}
			if a, ok := wholly(l[:i], line); ok {
				if b, ok := wholly(l[i+1:], line+1); ok {
					return op(x.S, a, b), true
				}
			}
		}
	}
	return wholly(l, line+1)
}

// balanced: has each parenthesis its other one?
func balanced(l []token.Token) bool {
	open := 0
	for _, x := range l {
		switch x {
		case markToken("("):
			open++
		case markToken(")"):
			open--
		}
	}
	return open == 0
}

// leafOf: what a token is alone.
func leafOf(x token.Token) (api.Expr, bool) {
	switch {
	case x.Kind == 2:
		return num(x.N), true
	case x.Kind == 3 && len(x.S) == 1:
		return num(uint16(x.S[0])), true
	case x.Kind == 3 && len(x.S) == 2:
		return num(uint16(x.S[0])<<8 | uint16(x.S[1])), true
	case x.Kind == 1 && !slices.Contains(words(), x.S):
		return sym(x.S), true
	case x == markToken("$"):
		return here(), true
	}
	return api.Expr{}, false
}

// walker: goes over tokens, and knows of them what may come, and what is open.
type walker struct {
	part bool     // a part must come
	not  bool     // NOT, too, may be ahead of it
	open []string // (, NOT and - that are open
}

// step: over one token; false: an expression ends ahead of it.
func (w *walker) step(x token.Token) (bool, api.Kind) {
	if w.part {
		return true, w.begin(x)
	}
	if line := lineOf(x); line > 0 {
		for line < 3 && w.top() == "NOT" {
			w.pop()
		}
		w.part, w.not = true, line < 3
		return true, api.OK
	}
	if !slices.Contains(w.open, "(") {
		return false, api.OK
	}
	if x != markToken(")") {
		return false, api.Syntax
	}
	for w.top() == "NOT" {
		w.pop()
	}
	w.pop() // the parenthesis
	w.ended()
	return true, api.OK
}

// begin: a token where a part must come.
func (w *walker) begin(x token.Token) api.Kind {
	_, leaf := leafOf(x)
	switch {
	case x == markToken("("), x == markToken("-"), x == nameToken("NOT") && w.not:
		w.open = append(w.open, x.S)
		w.not = x.S != "-"
		if len(w.open) > 48 {
			return api.TooLarge
		}
	case leaf:
		w.ended()
	case x.Kind == 3:
		return api.Range
	default:
		return api.Syntax
	}
	return api.OK
}

// ended: a part has, and so has each - ahead of it.
func (w *walker) ended() {
	w.part = false // what comes behind it is an operator
	for w.top() == "-" {
		w.pop()
	}
}

func (w *walker) top() string {
	if len(w.open) == 0 {
		return ""
	}
	return w.open[len(w.open)-1]
}

func (w *walker) pop() { w.open = w.open[:len(w.open)-1] }

// deepOf: how deep an expression is nested.
func deepOf(e api.Expr) int {
	deep := 0
	for _, x := range e.Sub {
		deep = max(deep, deepOf(x))
	}
	return deep + 1
}

// wantParse: what Parse must answer: how far the tokens go, by a walk over them; which expression that is, by cuts.
func wantParse(l []token.Token) (api.Expr, int, api.Kind) {
	w := walker{part: true, not: true}
	n := 0
	for ; ; n++ {
		x := token.Token{} // behind the last one
		if n < len(l) {
			x = l[n]
		}
		on, k := w.step(x)
		if k != api.OK {
			return api.Expr{}, 0, k
		}
		if !on {
			break
		}
	}
	e, ok := wholly(l[:n], 1)
	if !ok {
		return api.Expr{}, 0, -1 // the walk is wrong
	}
	if deepOf(e) > 24 {
		return api.Expr{}, 0, api.TooLarge
	}
	return e, n, api.OK
}

// parses: Parse and All answer what they must.
func parses(t *testing.T, l []token.Token) api.Kind {
	t.Helper()
	e, n, k := wantParse(l)
	if k == -1 {
		t.Fatalf("%q: no expression of %d tokens", token.Show(l), n)
	}
	if k == api.OK {
		reads(t, l, n, e)
	} else {
		fails(t, l, k)
	}
	return k
}

// P501: every list of a few tokens.
func TestParseEach(t *testing.T) {
	for _, row := range []struct {
		n int
		s string
	}{
		{6, "1 X OR AND NOT - * ( )"},
		{7, "1 NOT - AND ( )"},
		{8, "1 NOT - +"},
		{5, "1 $ ' ' '' XOR + MOD - NOT ( ) ,"},
		{3, "1 $ X 'a' 'ab' '' 'abc' OR XOR AND NOT + - * / MOD SHL SHR ( ) [ ] , : NEG"},
	} {
		eachList(of(t, row.s), row.n, func(l []token.Token) { parses(t, l) })
	}
}

// P501: long lists, in which much is open, of tokens by a fixed rule.
func TestParseEachLong(t *testing.T) {
	state := uint32(1)
	below := func(n int) int {
		state = state*1664525 + 1013904223
		return int(state>>8) % n
	}
	count := map[api.Kind]int{}
	for range 6000 {
		count[parses(t, longList(t, below))]++
	}
	for _, k := range []api.Kind{api.OK, api.Syntax, api.Range, api.TooLarge} {
		if count[k] < 100 {
			t.Errorf("kind %d came %d times only", k, count[k])
		}
	}
}

// longList: openers, a part, and closers and operators with parts behind it; now and then, another token in it.
func longList(t *testing.T, below func(n int) int) []token.Token {
	var list []token.Token
	put := func(s string) { list = append(list, of(t, s)...) }
	pick := func(s string) string { return strings.Fields(s)[below(len(strings.Fields(s)))] }
	ways := []string{"( ( ( ( ( ( NOT -", "( - - (", "( ( ( ( ( ( ( ( (", "( NOT NOT ( -"}
	way := ways[below(len(ways))]
	for range 1 + below(3) {
		for range below(60) {
			put(pick(way))
		}
		put(pick("1 X $ 'a'"))
		for range below(60) {
			put(pick(") ) ) ) ) ) ) )"))
			if below(8) == 0 {
				put(pick("+ * OR AND -") + " 2")
			}
		}
		put(pick("+ - AND OR"))
	}
	list = list[:len(list)-1]
	if below(3) == 0 {
		list[below(len(list))] = of(t, pick("'' 'abc' , NOT + ) ("))[0]
	}
	return list
}

// Rule 4: the list that is handed in is not changed, its spare room neither, and not kept.
func TestTokensHandedIn(t *testing.T) {
	room := of(t, "NOT ( x + 1 ) AND 'a' y z 1 +")
	before := slices.Clone(room)
	l := room[:8]
	e, n, k := Parse(l)
	f, j := All(l)
	if !slices.Equal(room, before) {
		t.Errorf("what was handed in is %v now", room)
	}
	clear(room)
	want := op("AND", op("NOT", op("+", sym("X"), num(1))), num('a'))
	if k != api.OK || j != api.OK || n != 8 || !alike(e, want) || !alike(f, want) {
		t.Errorf("what was answered is %v, %v now", e, f)
	}
}

// Rule 4: the expression that is handed in is not changed, its spare room neither, and what comes of it is not it.
func TestExprHandedIn(t *testing.T) {
	make2 := func() (api.Expr, []api.Expr) {
		room := make([]api.Expr, 2, 4)
		room[0], room[1] = op("NOT", sym("X")), op("/", num(6), sym("Y"))
		copy(room[2:4], []api.Expr{sym("SPARE"), num(77)})
		return api.Expr{Op: "OR", Sub: room[:2]}, room[:4]
	}
	e, room := make2()
	want, wantRoom := make2()
	value := func(string) (uint16, api.Kind) { return 2, api.OK }
	k := Right(e)
	s, _ := Show(e)
	n, _ := Eval(e, 1, value)
	names := Names(e)
	same := Same(e, want)
	if !alike(e, want) || !slices.EqualFunc(room, wantRoom, alike) {
		t.Errorf("what was handed in is %v, %v now", e, room)
	}
	clear(room)
	if k != api.OK || s != "NOT X OR 6 / Y" || n != 65535 || !slices.Equal(names, []string{"X", "Y"}) || !same {
		t.Errorf("what was answered is kind %d, %q, %d, %q, %t", k, s, n, names, same)
	}
}

// lists: all lists of an expression, with their spare room.
func lists(e api.Expr) [][]api.Expr {
	if len(e.Sub) == 0 {
		return nil
	}
	all := [][]api.Expr{e.Sub[:cap(e.Sub)]}
	for _, x := range e.Sub {
		all = append(all, lists(x)...)
	}
	return all
}

// opsOf: the Ops of lists, one by one.
func opsOf(all [][]api.Expr) [][]string {
	var ops [][]string
	for _, l := range all {
		var list []string
		for _, x := range l {
			list = append(list, x.Op)
		}
		ops = append(ops, list)
	}
	return ops
}

// Rule 4: what is handed out is new memory, each list of it too, with its spare room.
func TestHandedOut(t *testing.T) {
	const s = "NOT ( x + 1 * 2 ) AND - - y OR ( 1 ) - ( $ - 3 )"
	l := of(t, s)
	want := copied(first(t, l))
	for i := range lists(want) {
		e, other := first(t, l), first(t, l)
		all := lists(e)
		ops := opsOf(all)
		clear(all[i])
		for j, list := range opsOf(all) {
			if slices.Equal(list, ops[j]) != (j != i) {
				t.Errorf("what is written into list %d: list %d is %q, and was %q", i, j, list, ops[j])
			}
		}
		if !alike(other, want) || !alike(first(t, l), want) {
			t.Errorf("what is written into list %d is seen in another answer", i)
		}
	}
	names, more := Names(want), Names(want)
	clear(names[:cap(names)])
	if !slices.Equal(more, []string{"X", "Y"}) || !slices.Equal(Names(want), more) {
		t.Errorf("Names: %q now", more)
	}
}

// first: what Parse answers.
func first(t *testing.T, l []token.Token) api.Expr {
	t.Helper()
	e, _, k := Parse(l)
	if k != api.OK {
		t.Fatalf("Parse of %q: kind %d", token.Show(l), k)
	}
	return e
}
