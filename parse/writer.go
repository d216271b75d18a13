package parse

import (
	"slices"
	"strings"

	"scrivener/api"
	"scrivener/lex"
	"scrivener/text"
)

const (
	maxDeep = 500

	letters = "abcdefghijklmnopqrstuvwxyzABCDEFGHIJKLMNOPQRSTUVWXYZ_"
	digits  = "0123456789"
)

// writer writes what is a statement's, piece by piece.
type writer struct {
	b       strings.Builder
	deep    int
	counted bool // it is known which parameter comes next
	param   int  // the last one
}

// need ends all with an error, if something is not as Parse makes it.
func need(is bool) {
	if !is {
		panic(fault{errno: api.ErrForm})
	}
}

// told is what was written, if nothing was refused.
func (w *writer) told(write func()) (string, api.Errno) {
	if f := firstFault(write); f.errno != api.OK {
		return "", f.errno
	}
	return w.b.String(), api.OK
}

func (w *writer) put(parts ...string) {
	for _, s := range parts {
		w.b.WriteString(s)
	}
}

func (w *writer) name(s string) {
	if isPlain(s) {
		w.put(s)
		return
	}
	need(s != "" && len(s) <= api.MaxName && !strings.Contains(s, `"`))
	w.put(`"`, s, `"`)
}

// isPlain tells whether a name may stand without marks.
func isPlain(s string) bool {
	behind := strings.TrimLeft(s, letters)
	if behind == s || strings.Trim(behind, letters+digits) != "" {
		return false
	}
	// Of one that is too long for Lex nothing is told, and it is no word.
	l, _, _ := lex.Lex(s)
	return len(l) == 0 || l[0].Kind != api.TokWord
}

// list writes members with a comma between.
func (w *writer) list(n int, member func(i int)) {
	need(n <= api.MaxFields)
	for i := range n {
		if i > 0 {
			w.put(", ")
		}
		member(i)
	}
}

func (w *writer) exprs(l []api.Expr) {
	w.list(len(l), func(i int) { w.expr(l[i]) })
}

func (w *writer) expr(e api.Expr) {
	w.deep++
	need(w.deep <= maxDeep && fits(e))
	switch e.Kind {
	case api.ExprValue:
		w.literal(e.Value)
	case api.ExprParam:
		w.parameter(e.Int)
	case api.ExprName:
		w.name(e.Text)
	case api.ExprField:
		w.field(e.Kids[0], e.Text)
	case api.ExprAt:
		w.expr(e.Kids[0])
		w.put("[")
		w.expr(e.Kids[1])
		w.put("]")
	case api.ExprList:
		w.put("[")
		w.exprs(e.Kids)
		w.put("]")
	case api.ExprStruct:
		w.record(e)
	case api.ExprCall:
		w.name(e.Text)
		w.put("(")
		w.exprs(e.Kids)
		w.put(")")
	default:
		w.put("(")
		w.operation(e)
		w.put(")")
	}
	w.deep--
}

// operation is what stands in brackets always.
func (w *writer) operation(e api.Expr) {
	switch e.Kind {
	case api.ExprOp:
		need(isOperator(e.Text))
		w.expr(e.Kids[0])
		w.put(" ", e.Text, " ")
		w.expr(e.Kids[1])
	case api.ExprNot:
		w.put("not ")
		w.expr(e.Kids[0])
	case api.ExprNeg:
		w.put("- ")
		w.expr(e.Kids[0])
	case api.ExprIs:
		need(e.Text == "null" || e.Text == "missing")
		w.expr(e.Kids[0])
		w.put(" is ", e.Text)
	default:
		need(false)
	}
}

func isOperator(s string) bool {
	switch s {
	case "or", "and", "=", "!=", "<", "<=", ">", ">=", "+", "-", "||", "*":
		return true
	}
	return false
}

func (w *writer) literal(v api.Value) {
	switch v.Kind {
	case api.Time, api.Blob, api.List, api.Struct:
		need(false)
	}
	// A sign ahead of a number is an expression.
	need(v.Int >= 0)
	w.value(v)
}

func (w *writer) value(v api.Value) {
	s, e := text.Print(v)
	need(e == api.OK)
	w.put(s)
}

// parameter has to be the next one: the first of an expression alone may be any.
func (w *writer) parameter(n int) {
	need(n >= 0 && (!w.counted || n-1 == w.param))
	w.counted = true
	w.param = n
	w.put("?")
}

func (w *writer) field(of api.Expr, name string) {
	// A point right behind a number would be the number's.
	if of.Value.Kind == api.Int || of.Value.Kind == api.Decimal {
		w.put("(")
		w.expr(of)
		w.put(")")
	} else {
		w.expr(of)
	}
	w.put(".")
	w.name(name)
}

func (w *writer) record(e api.Expr) {
	need(len(e.Names) == len(e.Kids))
	w.put("{")
	w.list(len(e.Kids), func(i int) {
		name := e.Names[i]
		need(isMember(name) && !slices.Contains(e.Names[:i], name))
		w.value(api.Value{Kind: api.Text, Text: name})
		w.put(": ")
		w.expr(e.Kids[i])
	})
	w.put("}")
}
