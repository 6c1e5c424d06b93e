package expr

import (
	"lychway/api"
	"lychway/lex"
	"lychway/value"
)

// Parse a string as a formula; with an error, the offset of what is wrong
// (P4.4).
func Parse(s string) (x api.Expr, at int, e api.Errno) {
	tokens, at, e := lex.Tokens(s)
	if e != api.OK {
		return api.Expr{}, at, e
	}
	if x, at, e = parsed(tokens, len(s)); e == api.OK {
		e = Check(x)
	}
	if e != api.OK {
		return api.Expr{}, at, e
	}
	return x, 0, api.OK
}

// Syntax errors, as they are thrown.
type (
	wrongToken api.Token // it can't continue a formula
	wrongEnd   struct{}  // the formula isn't complete
)

// parsed is the formula that all tokens of a string are, with the offset 0, or
// the offset of the syntax error. The string has this length.
func parsed(tokens []api.Token, length int) (x api.Expr, at int, e api.Errno) {
	defer func() {
		switch wrong := recover().(type) {
		case nil:
		case wrongToken:
			at, e = wrong.At, api.ErrForm
		case wrongEnd:
			at, e = length, api.ErrForm
		default: // nothing else is thrown; a caller must never see a panic, nor take this for a formula
			at, e = 0, api.ErrState
		}
	}()
	p := parser{tokens: tokens}
	x = p.formula(lowest)
	if p.next < len(tokens) {
		p.throw()
	}
	return x, 0, api.OK
}

// parser reads tokens from the first to the last one, and never goes back: so
// a token that it can't take can't continue what stands before it.
type parser struct {
	tokens []api.Token
	next   int
}

// throw the syntax error that the next token, or its absence, is.
func (p *parser) throw() {
	if p.next == len(p.tokens) {
		panic(wrongEnd{})
	}
	panic(wrongToken(p.tokens[p.next]))
}

// isNext: is the next token written like this? (A Quote never is, as its
// double quotes belong to its source.)
func (p *parser) isNext(source string) bool {
	return p.next < len(p.tokens) && p.tokens[p.next].S == source
}

// expect takes a token that must come next.
func (p *parser) expect(source string) {
	if !p.isNext(source) {
		p.throw()
	}
	p.next++
}

// operator takes the next token if it is an operator of this precedence, and
// returns its Op. Otherwise it returns 0.
func (p *parser) operator(precedence int) int {
	for op, row := range notations {
		if row.precedence == precedence && p.isNext(row.sign) {
			p.next++
			return op
		}
	}
	return 0
}

// formula whose operators outside of parentheses have at least this precedence.
func (p *parser) formula(precedence int) api.Expr {
	if precedence == prefix {
		return p.prefixed()
	}
	x := p.formula(precedence + 1)
	for {
		op := p.operator(precedence)
		if op == 0 {
			return x
		}
		x = api.Expr{Op: op, Args: []api.Expr{x, p.formula(precedence + 1)}}
		if precedence == comparison { // it can't be chained
			return x
		}
	}
}

// prefixed is an atom, with any number of prefix operators before it.
func (p *parser) prefixed() api.Expr {
	if op := p.operator(prefix); op != 0 {
		return api.Expr{Op: op, Args: []api.Expr{p.prefixed()}}
	}
	return p.atom()
}

// atom is a formula in parentheses, an If, a Len, or one token.
func (p *parser) atom() api.Expr {
	if p.isNext("(") {
		return p.list(1)[0] // parentheses leave nothing behind
	}
	if op := p.operator(atom); op != 0 {
		return api.Expr{Op: op, Args: p.list(notations[op].args)}
	}
	return p.single()
}

// list of n formulas in parentheses, separated by commas.
func (p *parser) list(n int) []api.Expr {
	p.expect("(")
	list := []api.Expr{p.formula(lowest)}
	for len(list) < n {
		p.expect(",")
		list = append(list, p.formula(lowest))
	}
	p.expect(")")
	return list
}

// single is a formula of one token.
func (p *parser) single() api.Expr {
	if p.next == len(p.tokens) {
		p.throw()
	}
	x, ok := leaf(p.tokens[p.next])
	if !ok {
		p.throw()
	}
	p.next++
	return x
}

// leaf is the value or the name that a token stands for, if it is one.
func leaf(t api.Token) (api.Expr, bool) {
	switch {
	case t.Kind == api.Number || t.Kind == api.Quote:
		return api.Expr{Op: api.Const, V: t.V}, true
	case t.S == "true" || t.S == "false":
		v, _ := value.Parse(t.S) // both are notations
		return api.Expr{Op: api.Const, V: v}, true
	case t.Kind == api.Word && !lex.Key(t.S):
		return api.Expr{Op: api.Ref, Name: t.S}, true
	}
	return api.Expr{}, false
}
