package expr

import (
	"strings"

	"lychway/api"
	"lychway/value"
)

// Print a formula (P4.3).
func Print(x api.Expr) (string, api.Errno) {
	if e := Check(x); e != api.OK {
		return "", e
	}
	return printed(x), api.OK
}

// printed is the notation of a valid formula.
func printed(x api.Expr) string {
	own := notations[x.Op]
	switch {
	case x.Op == api.Const:
		s, _ := value.Show(x.V) // a valid Const has a notation
		return s
	case x.Op == api.Ref:
		return x.Name
	case own.precedence == atom:
		return own.sign + "(" + listed(x.Args) + ")"
	case x.Op == api.Not:
		return own.sign + " " + operand(x.Args[0], prefix)
	case own.precedence == prefix:
		return own.sign + operand(x.Args[0], prefix)
	}
	return operand(x.Args[0], leftPrecedence(own)) + " " + own.sign + " " + operand(x.Args[1], own.precedence+1)
}

// listed is the notation of the operands in the parentheses of an operator.
func listed(args []api.Expr) string {
	var list []string
	for _, arg := range args {
		list = append(list, printed(arg))
	}
	return strings.Join(list, ", ")
}

// operand is the notation of an operand where a precedence is required.
func operand(x api.Expr, required int) string {
	if notations[x.Op].precedence < required {
		return "(" + printed(x) + ")"
	}
	return printed(x)
}

// leftPrecedence is what a binary operator requires of its left operand.
func leftPrecedence(own notation) int {
	if own.precedence == comparison { // it can't be chained
		return own.precedence + 1
	}
	return own.precedence
}
