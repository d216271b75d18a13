package parse

import (
	"strconv"

	"scrivener/api"
)

func (w *writer) statement(s api.Stmt) {
	need(suits(s))
	switch s.Kind {
	case api.StmtSelect:
		w.selection(s)
	case api.StmtInsert:
		need(len(s.To) == 1)
		w.ahead("insert into ", s.Table)
		w.put(" value ")
		w.expr(s.To[0])
	case api.StmtUpdate:
		w.ahead("update ", s.Table)
		w.as(s.As)
		w.sets(s)
		w.where(s.Where)
	case api.StmtDelete:
		w.ahead("delete from ", s.Table)
		w.as(s.As)
		w.where(s.Where)
	case api.StmtTable:
		w.ahead("create table ", s.Table)
	case api.StmtDrop:
		w.ahead("drop table ", s.Table)
	case api.StmtIndex:
		w.ahead("create index on ", s.Table)
		w.ahead(" (", s.Field)
		w.put(")")
	}
}

// ahead is a name with what stands ahead of it.
func (w *writer) ahead(words, name string) {
	w.put(words)
	w.name(name)
}

func (w *writer) as(name string) { w.ahead(" as ", name) }

func (w *writer) selection(s api.Stmt) {
	need(len(s.From) > 0 && len(s.Desc) == len(s.Order) && s.Limit >= -1)
	w.put("select ")
	w.what(s)
	w.put(" from ")
	w.list(len(s.From), func(i int) { w.source(s.From[i]) })
	w.where(s.Where)
	if len(s.Order) > 0 {
		w.put(" order by ")
		w.list(len(s.Order), func(i int) { w.key(s.Order[i], s.Desc[i]) })
	}
	if s.Limit >= 0 {
		w.put(" limit ", strconv.Itoa(s.Limit))
	}
}

func (w *writer) what(s api.Stmt) {
	if len(s.Names) == 0 && len(s.What) == 1 {
		w.put("value ")
		w.expr(s.What[0])
		return
	}
	need(len(s.Names) == len(s.What))
	if len(s.What) == 0 {
		w.put("*")
	}
	w.list(len(s.What), func(i int) {
		w.expr(s.What[i])
		w.as(s.Names[i])
	})
}

func (w *writer) source(s api.Source) {
	switch s.Kind {
	case api.FromTable:
		w.name(s.Text)
	case api.FromHistory:
		w.ahead("history (", s.Text)
		w.put(")")
	case api.FromMeta:
		w.ahead("meta (", s.Text)
		w.put(")")
	case api.FromPath:
		need(s.Text == "" && (s.Path.Kind == api.ExprField || s.Path.Kind == api.ExprAt))
		w.expr(s.Path)
	default:
		need(false)
	}
	need(s.Kind == api.FromPath || isNothing(s.Path))
	w.as(s.As)
}

func (w *writer) where(l []api.Expr) {
	need(len(l) <= 1)
	for _, e := range l {
		w.put(" where ")
		w.expr(e)
	}
}

func (w *writer) key(e api.Expr, falling bool) {
	w.expr(e)
	if falling {
		w.put(" desc")
	}
}

func (w *writer) sets(s api.Stmt) {
	need(len(s.Sets) > 0 && len(s.To) == len(s.Sets))
	w.put(" set ")
	w.list(len(s.Sets), func(i int) {
		w.place(s.Sets[i])
		w.put(" = ")
		w.expr(s.To[i])
	})
}

// place is a name with steps by names.
func (w *writer) place(e api.Expr) {
	need(e.Kind == api.ExprField)
	// Once it is written it has an end.
	w.expr(e)
	for e.Kind == api.ExprField {
		e = e.Kids[0]
	}
	need(e.Kind == api.ExprName)
}
