package parse

import (
	"slices"

	"scrivener/api"
	"scrivener/decimal"
	"scrivener/text"
)

func (r *reader) expr() api.Expr { return r.within(r.or) }

func (r *reader) or() api.Expr { return r.joined(r.and, api.TokWord, "or") }

func (r *reader) and() api.Expr { return r.joined(r.not, api.TokWord, "and") }

func (r *reader) not() api.Expr {
	if r.skip(api.TokWord, "not") {
		return over(api.ExprNot, r.within(r.not))
	}
	return r.comparison()
}

func (r *reader) comparison() api.Expr {
	e := r.sum()
	if r.skip(api.TokWord, "is") {
		return r.is(e)
	}
	if r.stands(api.TokSign, "=", "!=", "<", "<=", ">", ">=") {
		return operation(r.take(), e, r.sum())
	}
	return e
}

func (r *reader) is(e api.Expr) api.Expr {
	turned := r.skip(api.TokWord, "not")
	if !r.stands(api.TokWord, "null", "missing") {
		panic(r.wrong(api.ErrSyntax))
	}
	is := over(api.ExprIs, e)
	is.Text = r.take().Text
	if turned {
		return over(api.ExprNot, is)
	}
	return is
}

func (r *reader) sum() api.Expr { return r.joined(r.product, api.TokSign, "+", "-", "||") }

func (r *reader) product() api.Expr { return r.joined(r.unary, api.TokSign, "*") }

// joined is parts with operators between, to the left.
func (r *reader) joined(part func() api.Expr, kind int, operators ...string) api.Expr {
	e := part()
	for r.stands(kind, operators...) {
		e = operation(r.take(), e, part())
	}
	return e
}

func (r *reader) unary() api.Expr {
	if r.skip(api.TokSign, "-") {
		return over(api.ExprNeg, r.within(r.unary))
	}
	return r.path()
}

func (r *reader) path() api.Expr {
	e := r.primary()
	for {
		switch {
		case r.skip(api.TokSign, "."):
			e = field(e, r.name())
		case r.skip(api.TokSign, "["):
			e = api.Expr{Kind: api.ExprAt, Kids: []api.Expr{e, r.expr()}}
			r.must(api.TokSign, "]")
		default:
			return e
		}
	}
}

func (r *reader) primary() api.Expr {
	switch r.left[0].Kind {
	case api.TokInt, api.TokDec:
		// Lex tells a number or a text only if it can be parsed.
		v, _ := decimal.Parse(r.take().Text)
		return api.Expr{Kind: api.ExprValue, Value: v}
	case api.TokText:
		return r.literal()
	case api.TokParam:
		r.take()
		r.params++
		return api.Expr{Kind: api.ExprParam, Int: r.params - 1}
	case api.TokName:
		return r.named()
	}
	if r.stands(api.TokWord, "null", "true", "false") {
		return r.literal()
	}
	return r.bracketed()
}

// literal is what stands in a statement as it does where values are printed.
func (r *reader) literal() api.Expr {
	v, _ := text.Parse(r.take().Text)
	return api.Expr{Kind: api.ExprValue, Value: v}
}

func (r *reader) named() api.Expr {
	name := r.name()
	if !r.skip(api.TokSign, "(") {
		return api.Expr{Kind: api.ExprName, Text: name}
	}
	return api.Expr{Kind: api.ExprCall, Text: name, Kids: r.exprsTo(")")}
}

func (r *reader) bracketed() api.Expr {
	switch {
	case r.skip(api.TokSign, "["):
		return api.Expr{Kind: api.ExprList, Kids: r.exprsTo("]")}
	case r.skip(api.TokSign, "{"):
		return r.record()
	}
	r.must(api.TokSign, "(")
	e := r.expr()
	r.must(api.TokSign, ")")
	return e
}

func (r *reader) exprsTo(end string) []api.Expr {
	var kids []api.Expr
	r.listTo(end, func() { kids = append(kids, r.expr()) })
	return kids
}

func (r *reader) record() api.Expr {
	e := api.Expr{Kind: api.ExprStruct}
	r.listTo("}", func() {
		e.Names = append(e.Names, r.member(e.Names))
		r.must(api.TokSign, ":")
		e.Kids = append(e.Kids, r.expr())
	})
	return e
}

// member is the name of a struct's next member, behind those that it has.
func (r *reader) member(names []string) string {
	if r.left[0].Kind != api.TokText {
		panic(r.wrong(api.ErrSyntax))
	}
	v, _ := text.Parse(r.left[0].Text)
	if !isMember(v.Text) || slices.Contains(names, v.Text) {
		panic(r.wrong(api.ErrSyntax))
	}
	r.take()
	return v.Text
}

// isMember tells whether a struct's member may have this name.
func isMember(name string) bool { return name != "" && len(name) <= api.MaxName }

func field(e api.Expr, name string) api.Expr {
	e = over(api.ExprField, e)
	e.Text = name
	return e
}

// over is an expression of one Kid.
func over(kind int, kid api.Expr) api.Expr {
	return api.Expr{Kind: kind, Kids: []api.Expr{kid}}
}

func operation(operator api.Token, left, right api.Expr) api.Expr {
	return api.Expr{Kind: api.ExprOp, Text: operator.Text, Kids: []api.Expr{left, right}}
}
