package parse

import (
	"strings"

	"scrivener/api"
	"scrivener/decimal"
)

// text is a statement with nothing behind it.
func (r *reader) text() api.Stmt {
	s := r.statement()
	r.skip(api.TokSign, ";")
	if r.left[0].Kind != api.TokEnd {
		panic(r.wrong(api.ErrSyntax))
	}
	return s
}

func (r *reader) statement() api.Stmt {
	switch {
	case r.skip(api.TokWord, "select"):
		return r.selection()
	case r.skip(api.TokWord, "insert"):
		return r.insertion()
	case r.skip(api.TokWord, "update"):
		return r.update()
	case r.skip(api.TokWord, "delete"):
		return r.deletion()
	case r.skip(api.TokWord, "create"):
		return r.creation()
	}
	r.must(api.TokWord, "drop")
	r.must(api.TokWord, "table")
	return api.Stmt{Kind: api.StmtDrop, Table: r.name()}
}

func (r *reader) selection() api.Stmt {
	s := api.Stmt{Kind: api.StmtSelect, Limit: -1}
	switch {
	case r.skip(api.TokWord, "value"):
		s.What = []api.Expr{r.expr()}
	case !r.skip(api.TokSign, "*"):
		r.list(func() { r.item(&s) })
	}
	r.must(api.TokWord, "from")
	r.list(func() { s.From = append(s.From, r.source()) })
	s.Where = r.where()
	if r.skip(api.TokWord, "order") {
		r.must(api.TokWord, "by")
		r.list(func() { r.key(&s) })
	}
	if r.skip(api.TokWord, "limit") {
		s.Limit = r.whole()
	}
	return s
}

func (r *reader) item(s *api.Stmt) {
	e := r.expr()
	s.What = append(s.What, e)
	if r.skip(api.TokWord, "as") {
		s.Names = append(s.Names, r.name())
		return
	}
	if e.Kind != api.ExprField && e.Kind != api.ExprName {
		panic(r.wrong(api.ErrSyntax))
	}
	s.Names = append(s.Names, strings.Clone(e.Text))
}

func (r *reader) source() api.Source {
	switch {
	case r.skip(api.TokWord, "history"):
		return r.versions(api.FromHistory)
	case r.skip(api.TokWord, "meta"):
		return r.versions(api.FromMeta)
	}
	before := len(r.left)
	path := r.path()
	// Brackets leave no trace in a path, but within them a name is no table's.
	if path.Kind == api.ExprName && before-len(r.left) == 1 {
		return api.Source{Kind: api.FromTable, Text: path.Text, As: r.as(path.Text)}
	}
	if path.Kind != api.ExprField && path.Kind != api.ExprAt {
		panic(r.wrong(api.ErrSyntax))
	}
	r.must(api.TokWord, "as")
	return api.Source{Kind: api.FromPath, Path: path, As: r.name()}
}

// versions is a source that tells more of a table than what its documents are.
func (r *reader) versions(kind int) api.Source {
	table := r.inBrackets()
	r.must(api.TokWord, "as")
	return api.Source{Kind: kind, Text: table, As: r.name()}
}

// as is the name of what may stand without one of its own.
func (r *reader) as(table string) string {
	if r.skip(api.TokWord, "as") {
		return r.name()
	}
	return strings.Clone(table)
}

func (r *reader) where() []api.Expr {
	if !r.skip(api.TokWord, "where") {
		return nil
	}
	return []api.Expr{r.expr()}
}

func (r *reader) key(s *api.Stmt) {
	s.Order = append(s.Order, r.expr())
	s.Desc = append(s.Desc, r.skip(api.TokWord, "desc"))
}

func (r *reader) whole() int {
	// Lex tells a number only if it can be parsed.
	n, _ := decimal.Parse(r.kind(api.TokInt).Text)
	return n.Int
}

func (r *reader) insertion() api.Stmt {
	r.must(api.TokWord, "into")
	s := api.Stmt{Kind: api.StmtInsert, Table: r.name()}
	r.must(api.TokWord, "value")
	s.To = []api.Expr{r.expr()}
	return s
}

func (r *reader) update() api.Stmt {
	s := api.Stmt{Kind: api.StmtUpdate, Table: r.name()}
	s.As = r.as(s.Table)
	r.must(api.TokWord, "set")
	r.list(func() { r.set(&s) })
	s.Where = r.where()
	return s
}

func (r *reader) set(s *api.Stmt) {
	s.Sets = append(s.Sets, r.place())
	r.must(api.TokSign, "=")
	s.To = append(s.To, r.expr())
}

func (r *reader) place() api.Expr {
	e := api.Expr{Kind: api.ExprName, Text: r.name()}
	r.must(api.TokSign, ".")
	e = field(e, r.name())
	for r.skip(api.TokSign, ".") {
		e = field(e, r.name())
	}
	return e
}

func (r *reader) deletion() api.Stmt {
	r.must(api.TokWord, "from")
	s := api.Stmt{Kind: api.StmtDelete, Table: r.name()}
	s.As = r.as(s.Table)
	s.Where = r.where()
	return s
}

func (r *reader) creation() api.Stmt {
	if r.skip(api.TokWord, "table") {
		return api.Stmt{Kind: api.StmtTable, Table: r.name()}
	}
	r.must(api.TokWord, "index")
	r.must(api.TokWord, "on")
	return api.Stmt{Kind: api.StmtIndex, Table: r.name(), Field: r.inBrackets()}
}
