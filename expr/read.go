package expr

import (
	"slices"

	"pidgin/api"
	"pidgin/number"
	"pidgin/token"
)

// The kinds of tokens.
const (
	_ = iota
	kindName
	kindNumber
	kindText
	kindMark
)

const maxOpen = 2 * api.MaxDeep

// place: where it is in a list of tokens.
type place struct {
	list []token.Token
	at   int
}

// here: the token there; behind the last one, one of no kind.
func (p *place) here() token.Token {
	if p.at >= len(p.list) {
		return token.Token{}
	}
	return p.list[p.at]
}

// pass: goes on behind the token, if it is one of these words and marks, and answers which; else nothing.
func (p *place) pass(texts ...string) string {
	t := p.here()
	kind := kindMark
	if number.Name(t.S) {
		kind = kindName
	}
	if t.Kind != kind || !slices.Contains(texts, t.S) {
		return ""
	}
	p.at++
	return t.S
}

// reader: reads an expression from a place on.
type reader struct {
	place
	open int // parentheses, NOT and - that it is within
}

// whole: an expression of any operators.
func (r *reader) whole() (api.Expr, api.Kind) { return r.row(r.conjunction, opOr, opXor) }

func (r *reader) conjunction() (api.Expr, api.Kind) { return r.row(r.negation, opAnd) }

func (r *reader) negation() (api.Expr, api.Kind) {
	if r.pass(opNot) == "" {
		return r.sum()
	}
	return r.ahead(opNot, r.negation)
}

func (r *reader) sum() (api.Expr, api.Kind) { return r.row(r.product, "+", "-") }

func (r *reader) product() (api.Expr, api.Kind) {
	return r.row(r.signed, "*", "/", opMod, opShl, opShr)
}

func (r *reader) signed() (api.Expr, api.Kind) {
	if r.pass("-") == "" {
		return r.first()
	}
	return r.ahead(opNeg, r.signed)
}

// first: what an expression may begin with.
func (r *reader) first() (api.Expr, api.Kind) {
	if r.pass("(") != "" {
		return r.within(r.closed)
	}
	if r.pass(opHere) != "" {
		return api.Expr{Op: opHere}, api.OK
	}
	t := r.here()
	r.at++
	switch t.Kind {
	case kindNumber:
		return api.Expr{Op: opNumber, N: t.N}, api.OK
	case kindText:
		n, k := number.Value(t.S)
		return api.Expr{Op: opNumber, N: n}, k
	case kindName:
		if isName(t.S) {
			return api.Expr{Op: opName, Name: t.S}, api.OK
		}
	}
	return api.Expr{}, api.Syntax
}

// closed: an expression, and a parenthesis behind it.
func (r *reader) closed() (api.Expr, api.Kind) {
	e, k := r.whole()
	if k == api.OK && r.pass(")") == "" {
		k = api.Syntax
	}
	return e, k
}

// row: parts with these operators between them, which bind to the left.
func (r *reader) row(part func() (api.Expr, api.Kind), ops ...string) (api.Expr, api.Kind) {
	left, k := part()
	for k == api.OK {
		op := r.pass(ops...)
		if op == "" {
			break
		}
		var right api.Expr
		right, k = part()
		left = api.Expr{Op: op, Sub: []api.Expr{left, right}}
	}
	return left, k
}

// ahead: the part of an operator that stood ahead of it.
func (r *reader) ahead(op string, part func() (api.Expr, api.Kind)) (api.Expr, api.Kind) {
	e, k := r.within(part)
	return api.Expr{Op: op, Sub: []api.Expr{e}}, k
}

// within: what comes while one more is open.
func (r *reader) within(part func() (api.Expr, api.Kind)) (api.Expr, api.Kind) {
	if r.open == maxOpen {
		return api.Expr{}, api.TooLarge
	}
	r.open++
	e, k := part()
	r.open--
	return e, k
}
