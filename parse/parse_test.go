package parse

import (
	"fmt"
	"math"
	"slices"
	"strconv"
	"strings"
	"testing"

	"scrivener/api"
	"scrivener/lex"
)

// Short ways to write expressions, sources and statements.

func lit(v api.Value) api.Expr { return api.Expr{Kind: api.ExprValue, Value: v} }
func num(n int) api.Expr       { return lit(api.Value{Kind: api.Int, Int: n}) }
func dec(n, scale int) api.Expr {
	return lit(api.Value{Kind: api.Decimal, Int: n, Scale: scale})
}
func str(s string) api.Expr   { return lit(api.Value{Kind: api.Text, Text: s}) }
func null() api.Expr          { return lit(api.Value{Kind: api.Null}) }
func truth(n int) api.Expr    { return lit(api.Value{Kind: api.Bool, Int: n}) }
func param(n int) api.Expr    { return api.Expr{Kind: api.ExprParam, Int: n} }
func name(s string) api.Expr  { return api.Expr{Kind: api.ExprName, Text: s} }
func not(e api.Expr) api.Expr { return api.Expr{Kind: api.ExprNot, Kids: []api.Expr{e}} }
func neg(e api.Expr) api.Expr { return api.Expr{Kind: api.ExprNeg, Kids: []api.Expr{e}} }

func is(e api.Expr, what string) api.Expr {
	return api.Expr{Kind: api.ExprIs, Text: what, Kids: []api.Expr{e}}
}

func op(sign string, a, b api.Expr) api.Expr {
	return api.Expr{Kind: api.ExprOp, Text: sign, Kids: []api.Expr{a, b}}
}

func at(e, place api.Expr) api.Expr {
	return api.Expr{Kind: api.ExprAt, Kids: []api.Expr{e, place}}
}

func list(l ...api.Expr) api.Expr { return api.Expr{Kind: api.ExprList, Kids: l} }

func call(f string, l ...api.Expr) api.Expr {
	return api.Expr{Kind: api.ExprCall, Text: f, Kids: l}
}

// record is a struct with these names, parted by blanks.
func record(names string, kids ...api.Expr) api.Expr {
	return api.Expr{Kind: api.ExprStruct, Names: strings.Fields(names), Kids: kids}
}

// path is a name with steps, parted by points.
func path(s string) api.Expr {
	l := strings.Split(s, ".")
	e := name(l[0])
	for _, step := range l[1:] {
		e = api.Expr{Kind: api.ExprField, Text: step, Kids: []api.Expr{e}}
	}
	return e
}

// step is a field of any expression.
func step(e api.Expr, of string) api.Expr {
	return api.Expr{Kind: api.ExprField, Text: of, Kids: []api.Expr{e}}
}

func table(s, as string) api.Source   { return api.Source{Kind: api.FromTable, Text: s, As: as} }
func history(s, as string) api.Source { return api.Source{Kind: api.FromHistory, Text: s, As: as} }
func meta(s, as string) api.Source    { return api.Source{Kind: api.FromMeta, Text: s, As: as} }
func along(e api.Expr, as string) api.Source {
	return api.Source{Kind: api.FromPath, Path: e, As: as}
}

// from is a select of all from t, or from these.
func from(l ...api.Source) api.Stmt {
	if len(l) == 0 {
		l = []api.Source{table("t", "t")}
	}
	return api.Stmt{Kind: api.StmtSelect, From: l, Limit: -1}
}

// selects is a select of a value from t.
func selects(e api.Expr) api.Stmt {
	s := from()
	s.What = []api.Expr{e}
	return s
}

// picks is a select of items from t, with names that are parted by blanks.
func picks(names string, l ...api.Expr) api.Stmt {
	s := selects(api.Expr{})
	s.What, s.Names = l, strings.Fields(names)
	return s
}

func rep(s string, n int) string { return strings.Repeat(s, n) }

// cut is a text for a message, cut where it is long.
func cut(s string) string {
	if len(s) <= 300 {
		return strconv.Quote(s)
	}
	return fmt.Sprintf("%q .. (%d bytes)", s[:300], len(s))
}

// short is a statement or expression for a message.
func short(x any) string { return cut(fmt.Sprintf("%+v", x)) }

// parses fails unless s is this statement, as the chapter has it too, and the same again once it is printed.
func parses(t *testing.T, s string, want api.Stmt) {
	t.Helper()
	if got, at, e := Parse(s); !alike(got, want) || at != 0 || e != api.OK {
		t.Errorf("Parse(%s) = %s, %d, %v, want %s", cut(s), short(got), at, e, short(want))
		return
	}
	asTheChapter(t, s)
	p, e := Print(want)
	if e != api.OK {
		t.Errorf("Print of %s: %v", cut(s), e)
		return
	}
	if got, at, e := Parse(p); !alike(got, want) || at != 0 || e != api.OK {
		t.Errorf("Parse(%s) = %s, %d, %v, want %s", cut(p), short(got), at, e, short(want))
	}
}

// parsesExpr is parses of an expression, wherever one may stand.
func parsesExpr(t *testing.T, s string, e api.Expr) {
	t.Helper()
	parses(t, "select value "+s+" from t", selects(e))
	parses(t, "select "+s+" as b from t", picks("b", e))
	parses(t, "insert into t value "+s, api.Stmt{Kind: api.StmtInsert, Table: "t", To: []api.Expr{e}})
	parses(t, "update t set t.a = "+s+" where "+"true", api.Stmt{Kind: api.StmtUpdate, Table: "t", As: "t", Sets: []api.Expr{path("t.a")}, To: []api.Expr{e}, Where: []api.Expr{truth(1)}})
	where := from()
	where.Where = []api.Expr{e}
	parses(t, "select * from t where "+s, where)
	order := from()
	order.Order, order.Desc = []api.Expr{e, name("q")}, []bool{true, false}
	parses(t, "select * from t order by "+s+" desc, q", order)
	parses(t, "select value ("+s+") from t", selects(e))
	parses(t, "select value f(q, "+s+") from t", selects(call("f", name("q"), e)))
	parses(t, "select value ["+s+", q] from t", selects(list(e, name("q"))))
	parses(t, "select value {'x': "+s+"} from t", selects(record("x", e)))
	parses(t, "select value q["+s+"] from t", selects(at(name("q"), e)))
	parses(t, "select value ("+s+").b from t", selects(step(e, "b")))
	parses(t, "select value not ("+s+") from t", selects(not(e)))
}

// errs fails unless s errs so.
func errs(t *testing.T, s string, place int, want api.Errno) {
	t.Helper()
	if got, at, e := Parse(s); !alike(got, api.Stmt{}) || at != place || e != want {
		t.Errorf("Parse(%s) = %s, %d, %v, want %d, %v", cut(s), short(got), at, e, place, want)
	}
	asTheChapter(t, s)
}

// wrongAt is errs of a text with a mark ¤ ahead of the token that cannot stand there.
func wrongAt(t *testing.T, s string) {
	t.Helper()
	ahead, behind, _ := strings.Cut(s, "¤")
	s = ahead + behind
	errs(t, s, len(s)-len(strings.TrimLeft(behind, " ")), api.ErrSyntax)
}

// asTheChapter fails unless Parse says of s what the chapter says.
func asTheChapter(t *testing.T, s string) {
	t.Helper()
	got, at, e := Parse(s)
	want, wantAt, wantE := chapterParse(s)
	if !alike(got, want) || at != wantAt || e != wantE {
		t.Errorf("Parse(%s) = %s, %d, %v, want %s, %d, %v", cut(s), short(got), at, e, short(want), wantAt, wantE)
	}
}

// prints fails unless s is printed so, as the chapter has it too.
func prints(t *testing.T, s api.Stmt, want string) {
	t.Helper()
	if got, e := Print(s); got != want || e != api.OK {
		t.Errorf("Print(%s) = %s, %v, want %s", short(s), cut(got), e, cut(want))
	}
	printsAsTheChapter(t, s)
}

func printsExpr(t *testing.T, e api.Expr, want string) {
	t.Helper()
	if got, err := Expr(e); got != want || err != api.OK {
		t.Errorf("Expr(%s) = %s, %v, want %s", short(e), cut(got), err, cut(want))
	}
	printsAsTheChapter(t, selects(e))
	exprAsTheChapter(t, e)
	within := list(e)
	if got, err := Expr(within); got != "["+want+"]" || err != api.OK {
		t.Errorf("Expr(%s) = %s, %v", short(within), cut(got), err)
	}
}

func refuses(t *testing.T, s api.Stmt) {
	t.Helper()
	if got, e := Print(s); got != "" || e != api.ErrForm {
		t.Errorf("Print(%s) = %s, %v, want ErrForm", short(s), cut(got), e)
	}
	printsAsTheChapter(t, s)
}

// refusesExpr fails unless the expression is refused, wherever it may stand.
func refusesExpr(t *testing.T, e api.Expr) {
	t.Helper()
	for _, x := range []api.Expr{e, list(e), list(num(1), e), not(e), neg(e), is(e, "null"), op("+", e, num(1)), op("+", num(1), e), at(e, num(1)), at(name("x"), e), call("f", e), record("a", e), step(e, "a")} {
		if got, err := Expr(x); got != "" || err != api.ErrForm {
			t.Errorf("Expr(%s) = %s, %v, want ErrForm", short(x), cut(got), err)
		}
		exprAsTheChapter(t, x)
	}
	where, order := from(), from()
	where.Where = []api.Expr{e}
	order.Order, order.Desc = []api.Expr{e}, []bool{false}
	for _, s := range []api.Stmt{selects(e), picks("a", e), picks("b a", num(1), e), where, order, from(along(step(e, "a"), "x")), {Kind: api.StmtInsert, Table: "t", To: []api.Expr{e}}, {Kind: api.StmtUpdate, Table: "t", As: "t", Sets: []api.Expr{path("t.a")}, To: []api.Expr{e}}, {Kind: api.StmtDelete, Table: "t", As: "t", Where: []api.Expr{e}}} {
		refuses(t, s)
	}
}

func printsAsTheChapter(t *testing.T, s api.Stmt) {
	t.Helper()
	got, e := Print(s)
	want, wantE := chapterPrint(s)
	if got != want || e != wantE {
		t.Errorf("Print(%s) = %s, %v, want %s, %v", short(s), cut(got), e, cut(want), wantE)
	}
}

func exprAsTheChapter(t *testing.T, e api.Expr) {
	t.Helper()
	got, err := Expr(e)
	want, wantErr := chapterExpr(e)
	if got != want || err != wantErr {
		t.Errorf("Expr(%s) = %s, %v, want %s, %v", short(e), cut(got), err, cut(want), wantErr)
	}
}

func TestExample(t *testing.T) {
	s, at, e := Parse("SELECT x.a FROM t AS x WHERE NOT x.b=1 AND true")
	if at != 0 || e != api.OK {
		t.Fatal(at, e)
	}
	prints(t, s, "select x.a as a from t as x where ((not (x.b = 1)) and true)")
}

// P18.1: selects

func TestWhat(t *testing.T) {
	parses(t, "select * from t", from())
	parses(t, "select value x from t", selects(name("x")))
	parses(t, "select value x.a + 1 from t", selects(op("+", path("x.a"), num(1))))
	wrongAt(t, "select value ¤* from t")
	wrongAt(t, "select value ¤from t")
	wrongAt(t, "select value x¤, y from t")
	wrongAt(t, "select value x ¤as y from t")
	wrongAt(t, "select *¤, x from t")
	wrongAt(t, "select * ¤as x from t")
	wrongAt(t, "select x, ¤* from t")
	wrongAt(t, "select x.¤* from t")
	wrongAt(t, "select ¤from t")
	wrongAt(t, "select x, ¤from t")
	wrongAt(t, "select x, ¤value y from t")
	wrongAt(t, "select¤")
	wrongAt(t, "select *¤")
	wrongAt(t, "select x¤")
	wrongAt(t, "select x,¤")
	wrongAt(t, "select value¤")
	wrongAt(t, "select value x¤")
	wrongAt(t, "select * ¤t")
	wrongAt(t, "select ¤,")
	wrongAt(t, "select ¤as x from t")
	wrongAt(t, "select ¤select from t")
	wrongAt(t, "select distinct ¤x from t")
}

func TestItems(t *testing.T) {
	parses(t, "select x from t", picks("x", name("x")))
	parses(t, "select x as y from t", picks("y", name("x")))
	parses(t, "select x.a from t", picks("a", path("x.a")))
	parses(t, "select x.a as b from t", picks("b", path("x.a")))
	parses(t, "select x.a.b.c from t", picks("c", path("x.a.b.c")))
	parses(t, "select x[0].a from t", picks("a", step(at(name("x"), num(0)), "a")))
	parses(t, "select x[0] as b from t", picks("b", at(name("x"), num(0))))
	parses(t, "select f(x).a from t", picks("a", step(call("f", name("x")), "a")))
	parses(t, "select f(x) as b from t", picks("b", call("f", name("x"))))
	parses(t, "select 1 as b from t", picks("b", num(1)))
	parses(t, "select (1).a from t", picks("a", step(num(1), "a")))
	parses(t, "select ?.a from t", picks("a", step(param(0), "a")))
	parses(t, "select (x + y).a from t", picks("a", step(op("+", name("x"), name("y")), "a")))
	parses(t, "select x or y as b from t", picks("b", op("or", name("x"), name("y"))))
	parses(t, "select x, y, x.a, 1 as x from t", picks("x y a x", name("x"), name("y"), path("x.a"), num(1)))
	parses(t, "select x as a, x as a from t", picks("a a", name("x"), name("x")))
	s := picks("b", path("x.b"))
	s.Names[0], s.What[0].Text = "a b", "a b"
	parses(t, `select x."a b" from t`, s)
	s = picks("b", path("x"))
	s.Names[0], s.What[0].Text = "select", "select"
	parses(t, `select "select" from t`, s)
	// Brackets leave no trace.
	parses(t, "select (x) from t", picks("x", name("x")))
	parses(t, "select ((x.a)), (((y))) from t", picks("a y", path("x.a"), name("y")))
	parses(t, "select ((x).a).b from t", picks("b", path("x.a.b")))
	parses(t, "select (x.a) as b from t", picks("b", path("x.a")))
}

// An item that has no name errs at the token behind it.
func TestItemsWithoutNames(t *testing.T) {
	for _, e := range []string{"1", "1.5", "'a'", "null", "true", "false", "?", "x[0]", "x.a[0]", "f()", "f(x)", "[x]", "{}", "{'a': x}", "(1)", "(x[0])", "x + y", "x * y", "x.a || y.a", "- x", "- x.a", "(- x)", "not x", "not x.a", "x = y", "x is null", "x is not missing", "x and y", "x or y.b", "(x or y.b)"} {
		for _, behind := range []string{"from t", ", y from t", ";", ""} {
			wrongAt(t, "select "+e+" ¤"+behind)
			wrongAt(t, "select x, x.a, "+e+" ¤"+behind)
		}
		parsed, _, err := Parse("select " + e + " as n from t")
		if err != api.OK || !slices.Equal(parsed.Names, []string{"n"}) {
			t.Error(e, err)
		}
	}
	wrongAt(t, "select x as ¤from t")
	wrongAt(t, "select x as ¤1 from t")
	wrongAt(t, "select x as ¤'a' from t")
	wrongAt(t, "select x as ¤value from t")
	wrongAt(t, "select x as y¤.a from t")
	wrongAt(t, "select x as y ¤as z from t")
	wrongAt(t, "select x ¤y from t")
	wrongAt(t, "select x.¤from t")
	wrongAt(t, "select x. ¤1 from t")
	wrongAt(t, "select x.¤'a' from t")
	wrongAt(t, "select x.¤[1] from t")
	wrongAt(t, "select x ¤1 from t")
}

func TestSources(t *testing.T) {
	parses(t, "select * from t as x", from(table("t", "x")))
	parses(t, "select * from t", from(table("t", "t")))
	parses(t, `select * from "from" as "as"`, from(table("from", "as")))
	parses(t, "select * from T", from(table("T", "T")))
	parses(t, "select * from history(t) as x", from(history("t", "x")))
	parses(t, "select * from history ( t ) as x", from(history("t", "x")))
	parses(t, "select * from meta(t) as x", from(meta("t", "x")))
	parses(t, `select * from "history" as x, "meta"`, from(table("history", "x"), table("meta", "meta")))
	parses(t, `select * from "meta"("x").a as x`, from(along(step(call("meta", name("x")), "a"), "x")))
	parses(t, "select * from x.a as y", from(along(path("x.a"), "y")))
	parses(t, "select * from x.a.b as y", from(along(path("x.a.b"), "y")))
	parses(t, "select * from x[0] as y", from(along(at(name("x"), num(0)), "y")))
	parses(t, "select * from x[y.a or ?].b as y", from(along(step(at(name("x"), op("or", path("y.a"), param(0))), "b"), "y")))
	parses(t, "select * from f(x).a as y", from(along(step(call("f", name("x")), "a"), "y")))
	parses(t, "select * from f()[0] as y", from(along(at(call("f"), num(0)), "y")))
	parses(t, "select * from 'a'.b as y, ?[1] as z, null.a as w", from(along(step(str("a"), "b"), "y"), along(at(param(0), num(1)), "z"), along(step(null(), "a"), "w")))
	parses(t, "select * from [x, y][0] as y, {'a': 1}.a as z", from(along(at(list(name("x"), name("y")), num(0)), "y"), along(step(record("a", num(1)), "a"), "z")))
	parses(t, "select * from 1 .a as y, 1.5[0] as z", from(along(step(num(1), "a"), "y"), along(at(dec(15, 1), num(0)), "z")))
	parses(t, "select * from (x.c) as y", from(along(path("x.c"), "y")))
	parses(t, "select * from ((x[0])) as y", from(along(at(name("x"), num(0)), "y")))
	parses(t, "select * from (x).c as y", from(along(path("x.c"), "y")))
	parses(t, "select * from (x or y).c as z", from(along(step(op("or", name("x"), name("y")), "c"), "z")))
	parses(t, "select * from t, t as x, history(t) as t, x.a as x", from(table("t", "t"), table("t", "x"), history("t", "t"), along(path("x.a"), "x")))
}

func TestWrongSources(t *testing.T) {
	wrongAt(t, "select * from¤")
	wrongAt(t, "select * from ¤;")
	wrongAt(t, "select * from t,¤")
	wrongAt(t, "select * from t, ¤where x")
	wrongAt(t, "select * from t ¤x")
	wrongAt(t, "select * from t as¤")
	wrongAt(t, "select * from t as ¤'x'")
	wrongAt(t, "select * from t as x¤.a")
	wrongAt(t, "select * from t as x ¤as y")
	wrongAt(t, "select * from ¤select")
	wrongAt(t, "select * from ¤value")
	wrongAt(t, "select * from ¤*")
	wrongAt(t, "select * from ¤- x.a as y")
	wrongAt(t, "select * from ¤not x.a as y")
	wrongAt(t, "select * from ¤missing")
	// A path needs a step and a name.
	for _, e := range []string{"1", "1.5", "'a'", "null", "true", "false", "?", "f()", "f(x)", "[x]", "[]", "{}", "(t)", "((t))", "(1)", "(x + y.a)", "(x.a or y.a)", "(- x.a)", "(not x.a)", "(x.a is null)", "(f(x))"} {
		wrongAt(t, "select * from "+e+" ¤as y")
		wrongAt(t, "select * from "+e+"¤")
		wrongAt(t, "select * from t, "+e+"¤, t")
	}
	for _, e := range []string{"x.a", "x[0]", "(x.a)", "(x[0])", "f(x).a", "'a'.b", "(x + y).a"} {
		for _, behind := range []string{"", ", t", "where x", "y", "= 1", "+ 1", ";"} {
			wrongAt(t, "select * from "+e+" ¤"+behind)
		}
		wrongAt(t, "select * from "+e+" as ¤1")
	}
	for _, w := range []string{"history", "meta"} {
		wrongAt(t, "select * from "+w+"¤")
		wrongAt(t, "select * from "+w+" ¤t")
		wrongAt(t, "select * from "+w+" ¤as t")
		wrongAt(t, "select * from "+w+"¤.a as t")
		wrongAt(t, "select * from "+w+"(¤)")
		wrongAt(t, "select * from "+w+"(¤'t') as x")
		wrongAt(t, "select * from "+w+"(¤(t)) as x")
		wrongAt(t, "select * from "+w+"(t¤.a) as x")
		wrongAt(t, "select * from "+w+"(t¤, u) as x")
		wrongAt(t, "select * from "+w+"(t¤")
		wrongAt(t, "select * from "+w+"(t)¤")
		wrongAt(t, "select * from "+w+"(t) ¤x")
		wrongAt(t, "select * from "+w+"(t)¤, t")
		wrongAt(t, "select * from "+w+"(t)¤.a as x")
		wrongAt(t, "select * from "+w+"(t) as¤")
		wrongAt(t, "select ¤"+w+" from t")
		wrongAt(t, "select value ¤"+w+"(t) from t")
	}
}

func TestWhereOrderLimit(t *testing.T) {
	s := from()
	s.Where = []api.Expr{op("=", path("x.a"), num(1))}
	parses(t, "select * from t where x.a = 1", s)
	s.Order, s.Desc = []api.Expr{name("x")}, []bool{false}
	parses(t, "select * from t where x.a = 1 order by x", s)
	s.Desc[0] = true
	parses(t, "select * from t where x.a = 1 order by x desc", s)
	s.Limit = 0
	parses(t, "select * from t where x.a = 1 order by x desc limit 0", s)
	s.Order, s.Desc = []api.Expr{name("x"), op("+", name("y"), num(1)), name("x"), name("z")}, []bool{false, true, true, false}
	parses(t, "select * from t where x.a = 1 order by x, y + 1 desc, x desc, z limit 0", s)
	s.Where = nil
	s.Limit = 1 << 40
	parses(t, "select * from t order by x, y + 1 desc, x desc, z limit 1099511627776", s)
	s.Limit = -1
	parses(t, "select * from t order by x, y + 1 desc, x desc, z", s)
	s.Order, s.Desc = nil, nil
	s.Limit = 7
	parses(t, "select * from t limit 7", s)
	s.Limit = math.MaxInt
	parses(t, "select * from t limit 9223372036854775807", s)
	s.Limit = 5
	s.Where = []api.Expr{op("or", name("a"), name("b"))}
	parses(t, "select * from t where a or b limit 5", s)

	wrongAt(t, "select * from t where¤")
	wrongAt(t, "select * from t where ¤order by x")
	wrongAt(t, "select * from t where ¤limit 1")
	wrongAt(t, "select * from t where ¤where x")
	wrongAt(t, "select * from t where x¤, y")
	wrongAt(t, "select * from t where x ¤where y")
	wrongAt(t, "select * from t where x ¤as y")
	wrongAt(t, "select * from t where x ¤desc")
	wrongAt(t, "select * from t where x ¤from u")
	wrongAt(t, "select * from t order¤")
	wrongAt(t, "select * from t order ¤x")
	wrongAt(t, "select * from t ¤by x")
	wrongAt(t, "select * from t order by¤")
	wrongAt(t, "select * from t order by ¤desc")
	wrongAt(t, "select * from t order by x,¤")
	wrongAt(t, "select * from t order by x, ¤desc")
	wrongAt(t, "select * from t order by x desc ¤desc")
	wrongAt(t, "select * from t order by x ¤asc")
	wrongAt(t, "select * from t order by x desc ¤where y")
	wrongAt(t, "select * from t order by x ¤where y")
	wrongAt(t, "select * from t order by x desc ¤+ 1")
	wrongAt(t, "select * from t limit¤")
	wrongAt(t, "select * from t limit ¤;")
	for _, limit := range []string{"1.5", "1.0", "0.0", "?", "x", "'1'", "null", "- 1", "(1)", "+ 1", "[1]", "\"1\"", "true"} {
		wrongAt(t, "select * from t limit ¤"+limit)
		wrongAt(t, "select * from t where x order by y limit ¤"+limit+";")
	}
	wrongAt(t, "select * from t limit 1 ¤+ 1")
	wrongAt(t, "select * from t limit 1¤, 2")
	wrongAt(t, "select * from t limit 1 ¤1")
	wrongAt(t, "select * from t limit 1 ¤.a")
	wrongAt(t, "select * from t limit 1 ¤where x")
	wrongAt(t, "select * from t limit 1 ¤order by x")
	wrongAt(t, "select * from t limit 1 ¤limit 1")
	wrongAt(t, "select * from t limit ¤9223372036854775808")
}

// P18.1: the other statements

func TestInserts(t *testing.T) {
	s := api.Stmt{Kind: api.StmtInsert, Table: "t", To: []api.Expr{record("b a", param(0), list(num(1)))}}
	parses(t, "insert into t value {'b': ?, 'a': [1]}", s)
	s.To[0] = op("or", name("x"), name("y"))
	s.Table = "into"
	parses(t, `insert into "into" value x or y`, s)
	wrongAt(t, "insert¤")
	wrongAt(t, "insert ¤t value 1")
	wrongAt(t, "insert into¤")
	wrongAt(t, "insert into ¤value 1")
	wrongAt(t, "insert into ¤'t' value 1")
	wrongAt(t, "insert into ¤(t) value 1")
	wrongAt(t, "insert into t¤")
	wrongAt(t, "insert into t ¤x")
	wrongAt(t, "insert into t ¤as x value 1")
	wrongAt(t, "insert into t¤.a value 1")
	wrongAt(t, "insert into t ¤{'a': 1}")
	wrongAt(t, "insert into t value¤")
	wrongAt(t, "insert into t value ¤;")
	wrongAt(t, "insert into t value 1¤, 2")
	wrongAt(t, "insert into t value 1 ¤where x")
	wrongAt(t, "insert into t value 1 ¤value 1")
}

func TestUpdates(t *testing.T) {
	s := api.Stmt{Kind: api.StmtUpdate, Table: "t", As: "t", Sets: []api.Expr{path("t.a")}, To: []api.Expr{num(1)}}
	parses(t, "update t set t.a = 1", s)
	s.As = "x"
	parses(t, "update t as x set t.a = 1", s)
	s.Where = []api.Expr{op("=", name("x"), name("y"))}
	parses(t, "update t as x set t.a = 1 where x = y", s)
	s.Sets = []api.Expr{path("x.a.b.c"), path("x.b"), path("y.b")}
	s.To = []api.Expr{op("=", name("a"), name("b")), op("or", path("x.a"), param(0)), list()}
	parses(t, "update t as x set x.a.b.c = a = b, x.b = x.a or ?, y.b = [] where x = y", s)
	s.Where = nil
	s.As = "t"
	parses(t, "update t set x.a.b.c = a = b, x.b = x.a or ?, y.b = []", s)
	wrongAt(t, "update¤")
	wrongAt(t, "update ¤set t.a = 1")
	wrongAt(t, "update ¤(t) set t.a = 1")
	wrongAt(t, "update t¤")
	wrongAt(t, "update t ¤x set t.a = 1")
	wrongAt(t, "update t as ¤set t.a = 1")
	wrongAt(t, "update t¤.a = 1")
	wrongAt(t, "update t ¤where x")
	wrongAt(t, "update t¤, u set t.a = 1")
	wrongAt(t, "update t set¤")
	wrongAt(t, "update t set ¤where x")
	wrongAt(t, "update t set t¤")
	wrongAt(t, "update t set t ¤= 1")
	wrongAt(t, "update t set t.¤= 1")
	wrongAt(t, "update t set t.a¤")
	wrongAt(t, "update t set t.a¤[0] = 1")
	wrongAt(t, "update t set t¤[0].a = 1")
	wrongAt(t, "update t set ¤(t.a) = 1")
	wrongAt(t, "update t set ¤(t).a = 1")
	wrongAt(t, "update t set ¤?.a = 1")
	wrongAt(t, "update t set ¤1 = 1")
	wrongAt(t, "update t set t. ¤1 = 1")
	wrongAt(t, "update t set f¤(x).a = 1")
	wrongAt(t, "update t set t.a ¤!= 1")
	wrongAt(t, "update t set t.a ¤+ 1")
	wrongAt(t, "update t set t.a =¤")
	wrongAt(t, "update t set t.a = ¤where x")
	wrongAt(t, "update t set t.a = ¤, t.b = 1")
	wrongAt(t, "update t set t.a = 1,¤")
	wrongAt(t, "update t set t.a = 1, ¤where x")
	wrongAt(t, "update t set t.a = 1, t¤")
	wrongAt(t, "update t set t.a = 1 ¤t.b = 1")
	wrongAt(t, "update t set t.a = 1 ¤set t.b = 1")
	wrongAt(t, "update t set t.a = 1 where¤")
	wrongAt(t, "update t set t.a = 1 ¤limit 1")
	wrongAt(t, "update t set t.a = 1 ¤order by x")
	wrongAt(t, "update t set t.a = b = c ¤= d")
}

func TestDeletes(t *testing.T) {
	s := api.Stmt{Kind: api.StmtDelete, Table: "t", As: "t"}
	parses(t, "delete from t", s)
	s.Where = []api.Expr{path("t.a")}
	parses(t, "delete from t where t.a", s)
	s.As = "x"
	parses(t, "delete from t as x where t.a", s)
	s.Where = nil
	parses(t, "delete from t as x", s)
	wrongAt(t, "delete¤")
	wrongAt(t, "delete ¤t")
	wrongAt(t, "delete ¤* from t")
	wrongAt(t, "delete from¤")
	wrongAt(t, "delete from ¤where x")
	wrongAt(t, "delete from ¤history(t) as x")
	wrongAt(t, "delete from ¤(t)")
	wrongAt(t, "delete from t ¤x")
	wrongAt(t, "delete from t¤.a as x")
	wrongAt(t, "delete from t¤, u")
	wrongAt(t, "delete from t as¤")
	wrongAt(t, "delete from t as ¤where x")
	wrongAt(t, "delete from t where¤")
	wrongAt(t, "delete from t where x ¤limit 1")
	wrongAt(t, "delete from t ¤limit 1")
	wrongAt(t, "delete from t ¤order by x")
}

func TestTablesAndIndexes(t *testing.T) {
	parses(t, "create table t", api.Stmt{Kind: api.StmtTable, Table: "t"})
	parses(t, `create table "create table"`, api.Stmt{Kind: api.StmtTable, Table: "create table"})
	parses(t, "drop table t", api.Stmt{Kind: api.StmtDrop, Table: "t"})
	parses(t, "create index on t(f)", api.Stmt{Kind: api.StmtIndex, Table: "t", Field: "f"})
	parses(t, `create index on "on" ( "index" )`, api.Stmt{Kind: api.StmtIndex, Table: "on", Field: "index"})
	wrongAt(t, "create¤")
	wrongAt(t, "create ¤t")
	wrongAt(t, "create ¤on t(f)")
	wrongAt(t, "create table¤")
	wrongAt(t, "create table ¤table")
	wrongAt(t, "create table ¤'t'")
	wrongAt(t, "create table ¤1")
	wrongAt(t, "create table t ¤t")
	wrongAt(t, "create table t¤, u")
	wrongAt(t, "create table t ¤as x")
	wrongAt(t, "create table t¤.a")
	wrongAt(t, "create table t¤(f)")
	wrongAt(t, "create index¤")
	wrongAt(t, "create index ¤t")
	wrongAt(t, "create index ¤i on t(f)")
	wrongAt(t, "create index on¤")
	wrongAt(t, "create index on ¤(f)")
	wrongAt(t, "create index on t¤")
	wrongAt(t, "create index on t ¤f")
	wrongAt(t, "create index on t¤.f")
	wrongAt(t, "create index on t(¤)")
	wrongAt(t, "create index on t(¤'f')")
	wrongAt(t, "create index on t(x¤.f)")
	wrongAt(t, "create index on t(f¤")
	wrongAt(t, "create index on t(f¤, g)")
	wrongAt(t, "create index on t(f) ¤g")
	wrongAt(t, "drop¤")
	wrongAt(t, "drop ¤t")
	wrongAt(t, "drop ¤index on t(f)")
	wrongAt(t, "drop table¤")
	wrongAt(t, "drop table ¤null")
	wrongAt(t, "drop table t¤, u")
}

func TestFirstToken(t *testing.T) {
	for _, s := range []string{"", ";", "x", "1", "'select'", "\"select\" * from t", "(select * from t)", "from t", "value 1", "table t", "into t value 1", "set t.a = 1", "where x", "?", "null", "- 1", "* from t", "t"} {
		wrongAt(t, "¤"+s)
		wrongAt(t, " \n-- select\n ¤"+s)
		wrongAt(t, "¤; "+s)
	}
}

// P18.1: what parts tokens, and the end

func TestLettersAndBlanks(t *testing.T) {
	s := picks("a", path("X.a"))
	s.From = []api.Source{table("T", "X")}
	s.Where = []api.Expr{op("and", not(op("=", path("X.b"), num(1))), not(is(name("y"), "missing")))}
	s.Order, s.Desc = []api.Expr{name("y")}, []bool{true}
	s.Limit = 3
	for _, text := range []string{
		"select X.a from T as X where not X.b = 1 and y is not missing order by y desc limit 3",
		"SELECT X.a FROM T AS X WHERE NOT X.b = 1 AND y IS NOT MISSING ORDER BY y DESC LIMIT 3",
		"Select X.a fRom T aS X wHERE nOT X.b = 1 aNd y iS NoT mISSING oRder By y DesC lIMIt 3",
		"select X . a from T as X where not X . b=1 and y is not missing order by y desc limit 3",
		"\tselect\nX\r.\r\na\nfrom\nT\nas\nX\nwhere\nnot\nX\n.\nb\n=\n1\nand\ny\nis\nnot\nmissing\norder\nby\ny\ndesc\nlimit\n3\n\n",
		"select--\nX.--x\na--from\nfrom T as X where not--not\nX.b=1 and--'\ny is--null\nnot missing order--\nby y desc limit 3--4",
		"select\"X\".\"a\"from\"T\"as\"X\"where not\"X\".\"b\"=1 and\"y\"is not missing order by\"y\"desc limit 3",
	} {
		parses(t, text, s)
		for _, end := range []string{";", " ;", "\n;\n", "-- ;\n;-- ;"} {
			parses(t, text+end, s)
		}
		for _, end := range []string{";;", "; ;", ";\n-- x\n;"} {
			if strings.HasSuffix(text, "--4") {
				end = "\n" + end
			}
			errs(t, text+end, len(text)+strings.LastIndex(end, ";"), api.ErrSyntax)
		}
	}
}

func TestEnds(t *testing.T) {
	for _, s := range []string{"select * from t", "select value 1 from t", "insert into t value 1", "update t set t.a = 1", "delete from t", "create table t", "drop table t", "create index on t(f)", "select * from t where x order by y desc limit 1"} {
		for _, end := range []string{"", ";", " ;", "; ", ";--"} {
			if _, at, e := Parse(s + end); at != 0 || e != api.OK {
				t.Error(s, end, at, e)
			}
			asTheChapter(t, s+end)
		}
		for _, behind := range []string{"¤;", "¤x", "¤select * from t", "--\n¤;", "¤1", "¤''"} {
			wrongAt(t, s+"; "+behind)
		}
		for _, behind := range []string{")", "]", "}", ":", "?", "'x'", "select", "insert"} {
			if _, _, e := Parse(s + " " + behind); e != api.ErrSyntax {
				t.Error(s, behind, e)
			}
			asTheChapter(t, s+" "+behind)
		}
		// Cut short behind whichever token: it errs at the end, or is whole.
		l, _, _ := lex.Lex(s)
		for _, x := range l {
			asTheChapter(t, s[:x.At])
		}
	}
}

// A name in marks is a name, whatever else stands so without them.
func TestMarkedNames(t *testing.T) {
	for _, n := range append(theGrammar.names, "'a'", "''", "'it''s'", "1", "1.5", "x", "<>", ",x") {
		if n == "NAME" || n == "END" {
			continue
		}
		m := `"` + n + `"`
		parsesExpr(t, m, name(n))
		parsesExpr(t, m+"("+m+")."+m, step(call(n, name(n)), n))
		parses(t, "create table "+m, api.Stmt{Kind: api.StmtTable, Table: n})
		parses(t, "delete from "+m+" as "+m, api.Stmt{Kind: api.StmtDelete, Table: n, As: n})
		wrongAt(t, "¤"+m)
		wrongAt(t, "select value x ¤"+m+" y from t")
		wrongAt(t, "select value x ¤"+m+" from t")
		wrongAt(t, "select value f(x ¤"+m+" y) from t")
		wrongAt(t, "select value (x ¤"+m+" from t")
		wrongAt(t, "select value {¤"+m+": 1} from t")
		wrongAt(t, "select value {'b': 1, ¤"+m+": 1} from t")
		wrongAt(t, "select value {'a' ¤"+m+" 1} from t")
		wrongAt(t, "select value x is ¤"+m+" from t")
		wrongAt(t, "select * ¤"+m+" t")
		wrongAt(t, "select * from t ¤"+m)
		wrongAt(t, "select * from t limit ¤"+m)
		wrongAt(t, "update t set t.a ¤"+m+" 1")
		wrongAt(t, "create ¤"+m+" t")
		wrongAt(t, "drop table t ¤"+m)
	}
}

// P18.1: Lex's error comes ahead of all others.
func TestErrorsOfLex(t *testing.T) {
	errs(t, "select value 'x from t", 13, api.ErrSyntax)
	errs(t, "drop drop 'x", 10, api.ErrSyntax)
	errs(t, "x #", 2, api.ErrSyntax)
	errs(t, "select * from t; x 01", 19, api.ErrSyntax)
	errs(t, "select value "+rep("(", 100)+" #", 114, api.ErrSyntax)
	errs(t, "select value ["+rep("1,", 300)+"1.", 614, api.ErrSyntax)
	errs(t, rep(" ", api.MaxText+1), 0, api.ErrLong)
	errs(t, "select * from t"+rep(" ", api.MaxText), 0, api.ErrLong)
	errs(t, "x #"+rep(" ", api.MaxText), 0, api.ErrLong)
	parses(t, "select * from t"+rep(" ", api.MaxText-15), from())
	errs(t, rep(" ", api.MaxText), api.MaxText, api.ErrSyntax)
}

// P18.1: expressions

func TestPrimaries(t *testing.T) {
	parsesExpr(t, "0", num(0))
	parsesExpr(t, "12", num(12))
	parsesExpr(t, "9223372036854775807", num(math.MaxInt))
	parsesExpr(t, "1.5", dec(15, 1))
	parsesExpr(t, "1.50", dec(15, 1))
	parsesExpr(t, "1.0", num(1))
	parsesExpr(t, "0.0", num(0))
	parsesExpr(t, "0.000000000000000001", dec(1, 18))
	parsesExpr(t, "9223372036854775807.0", num(math.MaxInt))
	parsesExpr(t, "''", str(""))
	parsesExpr(t, "'a b'", str("a b"))
	parsesExpr(t, "'it''s'", str("it's"))
	parsesExpr(t, `'\0a\ff\5c'`, str("\n\xff\\"))
	parsesExpr(t, "'"+rep("x", 3000)+"'", str(rep("x", 3000)))
	parsesExpr(t, "null", null())
	parsesExpr(t, "true", truth(1))
	parsesExpr(t, "false", truth(0))
	parsesExpr(t, "NULL", null())
	parsesExpr(t, "?", param(0))
	parsesExpr(t, "x", name("x"))
	parsesExpr(t, `"null"`, name("null"))
	parsesExpr(t, `"a b"`, name("a b"))
	parsesExpr(t, rep("n", 300), name(rep("n", 300)))
	parsesExpr(t, "f()", call("f"))
	parsesExpr(t, "f ( )", call("f"))
	parsesExpr(t, "f(x)", call("f", name("x")))
	parsesExpr(t, `"select"(x, 1 or 2, f(f()))`, call("select", name("x"), op("or", num(1), num(2)), call("f", call("f"))))
	parsesExpr(t, "(x)", name("x"))
	parsesExpr(t, "((x))", name("x"))
	parsesExpr(t, "[]", list())
	parsesExpr(t, "[x]", list(name("x")))
	parsesExpr(t, "[x, 1 or 2, []]", list(name("x"), op("or", num(1), num(2)), list()))
	parsesExpr(t, "{}", record(""))
	parsesExpr(t, "{'a': 1}", record("a", num(1)))
	parsesExpr(t, "{'b':1,'a' : {'a': 2 or 3}}", record("b a", num(1), record("a", op("or", num(2), num(3)))))
	for _, w := range strings.Fields(allWords) {
		switch w {
		case "null", "true", "false", "not", "value":
		default:
			wrongAt(t, "select value ¤"+w)
			wrongAt(t, "select value x + ¤"+w)
			wrongAt(t, "select value ["+"¤"+w)
		}
	}
	for _, s := range []string{")", "]", "}", ".", ",", ":", ";", "=", "+", "*", "<", "||", "!="} {
		wrongAt(t, "select value ¤"+s)
		wrongAt(t, "select value (¤"+s)
		wrongAt(t, "select value x[¤"+s)
		wrongAt(t, "select value x * ¤"+s)
		wrongAt(t, "select value not ¤"+s)
		wrongAt(t, "select value - ¤"+s)
		wrongAt(t, "select value {'a': ¤"+s)
		if s != ")" {
			wrongAt(t, "select value f(¤"+s)
		}
		if s != "]" {
			wrongAt(t, "select value [¤"+s)
		}
		if s != "}" {
			wrongAt(t, "select value {¤"+s)
		}
		wrongAt(t, "select value f(1, ¤"+s)
		wrongAt(t, "select value [1, ¤"+s)
		wrongAt(t, "select value {'a': 1, ¤"+s)
	}
}

func TestBrackets(t *testing.T) {
	wrongAt(t, "select value (¤")
	wrongAt(t, "select value (x¤")
	wrongAt(t, "select value (x¤] from t")
	wrongAt(t, "select value (x¤, y) from t")
	wrongAt(t, "select value (x)¤) from t")
	wrongAt(t, "select value (x) ¤(y) from t")
	wrongAt(t, "select value (f)¤(y) from t")
	wrongAt(t, "select value x.f¤(y) from t")
	wrongAt(t, "select value f(x)¤(y) from t")
	wrongAt(t, "select value 'f'¤(y) from t")
	wrongAt(t, "select value ?¤(y) from t")
	wrongAt(t, "select value [x¤ from t")
	wrongAt(t, "select value [x¤) from t")
	wrongAt(t, "select value [x ¤y] from t")
	wrongAt(t, "select value [x,¤,y] from t")
	wrongAt(t, "select value [¤,] from t")
	wrongAt(t, "select value [x, ¤] from t")
	wrongAt(t, "select value f(x ¤y) from t")
	wrongAt(t, "select value f(x,¤) from t")
	wrongAt(t, "select value f(¤,x) from t")
	wrongAt(t, "select value f(x¤] from t")
	wrongAt(t, "select value f(¤* ) from t")
	wrongAt(t, "select value x[¤] from t")
	wrongAt(t, "select value x[1¤, 2] from t")
	wrongAt(t, "select value x[1¤) from t")
	wrongAt(t, "select value x[1¤ from t")
	wrongAt(t, "select value x.¤ from t")
	wrongAt(t, "select value x.¤.a from t")
	wrongAt(t, "select value x.¤(a) from t")
	wrongAt(t, "select value x.¤? from t")
	wrongAt(t, "select value x.¤null from t")
	wrongAt(t, "select value ¤.a from t")
	wrongAt(t, "select value {¤a: 1} from t")
	wrongAt(t, "select value {¤1: 1} from t")
	wrongAt(t, "select value {¤?: 1} from t")
	wrongAt(t, "select value {¤\"a\": 1} from t")
	wrongAt(t, "select value {'a' ¤= 1} from t")
	wrongAt(t, "select value {'a'¤} from t")
	wrongAt(t, "select value {'a'¤, 'b'} from t")
	wrongAt(t, "select value {'a'¤.b: 1} from t")
	wrongAt(t, "select value {'a': ¤} from t")
	wrongAt(t, "select value {'a': 1¤ from t")
	wrongAt(t, "select value {'a': 1¤] from t")
	wrongAt(t, "select value {'a': 1 ¤'b': 1} from t")
	wrongAt(t, "select value {'a': 1¤: 1} from t")
	wrongAt(t, "select value {'a': 1, ¤} from t")
	wrongAt(t, "select value {'a': 1, ¤b: 1} from t")
	wrongAt(t, "select value {¤, 'a': 1} from t")
}

func TestPaths(t *testing.T) {
	parsesExpr(t, "x.a", path("x.a"))
	parsesExpr(t, "x.a.b", path("x.a.b"))
	parsesExpr(t, "x[0]", at(name("x"), num(0)))
	parsesExpr(t, "x[0][1].a[y or z]", at(step(at(at(name("x"), num(0)), num(1)), "a"), op("or", name("y"), name("z"))))
	parsesExpr(t, "x . a [ 0 ]", at(path("x.a"), num(0)))
	parsesExpr(t, `x."a b"."select"`, step(step(name("x"), "a b"), "select"))
	parsesExpr(t, "(x).a", path("x.a"))
	parsesExpr(t, "(x.a).b", path("x.a.b"))
	parsesExpr(t, "f(x).a", step(call("f", name("x")), "a"))
	parsesExpr(t, "f(x)[0]", at(call("f", name("x")), num(0)))
	parsesExpr(t, "[1, 2][0]", at(list(num(1), num(2)), num(0)))
	parsesExpr(t, "[[0]][0]", at(list(list(num(0))), num(0)))
	parsesExpr(t, "[1].a", step(list(num(1)), "a"))
	parsesExpr(t, "{'a': 1}.a", step(record("a", num(1)), "a"))
	parsesExpr(t, "{}[0]", at(record(""), num(0)))
	parsesExpr(t, "1 .a", step(num(1), "a"))
	parsesExpr(t, "(1).a", step(num(1), "a"))
	parsesExpr(t, "1.5 .a", step(dec(15, 1), "a"))
	parsesExpr(t, "1[0]", at(num(1), num(0)))
	parsesExpr(t, "'a'.b", step(str("a"), "b"))
	parsesExpr(t, "'a'[0]", at(str("a"), num(0)))
	parsesExpr(t, "null.a", step(null(), "a"))
	parsesExpr(t, "true.a[false]", at(step(truth(1), "a"), truth(0)))
	parsesExpr(t, "?[?].a", step(at(param(0), param(1)), "a"))
	parsesExpr(t, "(- x).a", step(neg(name("x")), "a"))
	parsesExpr(t, "(not x).a", step(not(name("x")), "a"))
	parsesExpr(t, "(x + y)[0]", at(op("+", name("x"), name("y")), num(0)))
	parsesExpr(t, "(x is null).a", step(is(name("x"), "null"), "a"))
	parsesExpr(t, "- x.a", neg(path("x.a")))
	parsesExpr(t, "- x[0]", neg(at(name("x"), num(0))))
	parsesExpr(t, "not x.a", not(path("x.a")))
	parsesExpr(t, "x.a + y.b", op("+", path("x.a"), path("y.b")))
}

// operators are the signs with how much they bind, the least first.
func operators() map[string]int {
	return map[string]int{"or": 1, "and": 2, "=": 3, "!=": 3, "<>": 3, "<": 3, "<=": 3, ">": 3, ">=": 3, "+": 4, "-": 4, "||": 4, "*": 5}
}

// told is an operator as Lex tells it.
func told(s string) string {
	if s == "<>" {
		return "!="
	}
	return s
}

func TestEachOperator(t *testing.T) {
	x, y := name("x"), name("y")
	for s := range operators() {
		e := op(told(s), x, y)
		parsesExpr(t, "x "+s+" y", e)
		parsesExpr(t, "(x) "+strings.ToUpper(s)+" (y)", e)
		parsesExpr(t, "x.a "+s+" - y[0]", op(told(s), path("x.a"), neg(at(y, num(0)))))
		parsesExpr(t, "[] "+s+" {}", op(told(s), list(), record("")))
		parsesExpr(t, "1 "+s+" 1.5", op(told(s), num(1), dec(15, 1)))
		wrongAt(t, "select value x "+s+" ¤from t")
		wrongAt(t, "select value x "+s+" ¤)")
		if s != "-" && s != "*" {
			wrongAt(t, "select value ¤"+s+" x from t")
			wrongAt(t, "select value x + ¤"+s+" y from t")
		}
	}
	for _, s := range []string{"/", "%", "like", "in"} {
		if _, _, e := Parse("select value x " + s + " y from t"); e != api.ErrSyntax {
			t.Error(s, e)
		}
	}
}

// Of any two operators: which binds more, and that alike ones go to the left; comparisons don't go on.
func TestEachTwoOperators(t *testing.T) {
	x, y, z := name("x"), name("y"), name("z")
	for a, m := range operators() {
		for b, n := range operators() {
			s := "x " + a + " y " + b + " z"
			left := op(told(b), op(told(a), x, y), z)
			right := op(told(a), x, op(told(b), y, z))
			switch {
			case m == 3 && n == 3:
				wrongAt(t, "select value x "+a+" y ¤"+b+" z from t")
			case m >= n:
				parsesExpr(t, s, left)
			default:
				parsesExpr(t, s, right)
			}
			parsesExpr(t, "(x "+a+" y) "+b+" z", left)
			parsesExpr(t, "x "+a+" (y "+b+" z)", right)
		}
	}
}

// Of any three of unlike strength, and of many alike ones.
func TestMoreOperators(t *testing.T) {
	a, b, c, d, f, g := name("a"), name("b"), name("c"), name("d"), name("f"), name("g")
	parsesExpr(t, "a or b and c = d + f * g", op("or", a, op("and", b, op("=", c, op("+", d, op("*", f, g))))))
	parsesExpr(t, "a * b + c = d and f or g", op("or", op("and", op("=", op("+", op("*", a, b), c), d), f), g))
	parsesExpr(t, "a - b - c - d", op("-", op("-", op("-", a, b), c), d))
	parsesExpr(t, "a - b + c || d", op("||", op("+", op("-", a, b), c), d))
	parsesExpr(t, "a or b or c or d", op("or", op("or", op("or", a, b), c), d))
	parsesExpr(t, "a and b and c and d", op("and", op("and", op("and", a, b), c), d))
	parsesExpr(t, "a * b * c * d", op("*", op("*", op("*", a, b), c), d))
	parsesExpr(t, "a = b or c = d", op("or", op("=", a, b), op("=", c, d)))
	parsesExpr(t, "a = b and c < d", op("and", op("=", a, b), op("<", c, d)))
	parsesExpr(t, "a + b < c * d", op("<", op("+", a, b), op("*", c, d)))
	parsesExpr(t, "a * b + c * d", op("+", op("*", a, b), op("*", c, d)))
	parsesExpr(t, "a and b or c and d", op("or", op("and", a, b), op("and", c, d)))
	parsesExpr(t, "(a = b) = c", op("=", op("=", a, b), c))
	parsesExpr(t, "a = (b = c)", op("=", a, op("=", b, c)))
	e := name("a")
	for range 400 {
		e = op("+", e, num(1))
	}
	if got, at, err := Parse("select value a" + rep("+1", 400) + " from t"); !alike(got, selects(e)) || at != 0 || err != api.OK {
		t.Error(at, err)
	}
}

func TestNots(t *testing.T) {
	x, y := name("x"), name("y")
	parsesExpr(t, "not x", not(x))
	parsesExpr(t, "not not x", not(not(x)))
	parsesExpr(t, "NOT Not nOT x", not(not(not(x))))
	parsesExpr(t, "not x and y", op("and", not(x), y))
	parsesExpr(t, "x and not y", op("and", x, not(y)))
	parsesExpr(t, "not x or not not y", op("or", not(x), not(not(y))))
	parsesExpr(t, "not x = y", not(op("=", x, y)))
	parsesExpr(t, "not x is null", not(is(x, "null")))
	parsesExpr(t, "not x + y", not(op("+", x, y)))
	parsesExpr(t, "not x * y < 1", not(op("<", op("*", x, y), num(1))))
	parsesExpr(t, "not - x", not(neg(x)))
	parsesExpr(t, "(not x) = y", op("=", not(x), y))
	parsesExpr(t, "- (not x)", neg(not(x)))
	wrongAt(t, "select value x = ¤not y from t")
	wrongAt(t, "select value x + ¤not y from t")
	wrongAt(t, "select value x * ¤not y from t")
	wrongAt(t, "select value - ¤not y from t")
	wrongAt(t, "select value x ¤not y from t")
	wrongAt(t, "select value not¤")
	wrongAt(t, "select value not ¤from t")
	wrongAt(t, "select value not ¤and y from t")
	wrongAt(t, "select value not not ¤or y from t")
	wrongAt(t, "select value x and ¤and y from t")
}

func TestNegs(t *testing.T) {
	x, y := name("x"), name("y")
	parsesExpr(t, "- x", neg(x))
	parsesExpr(t, "-x", neg(x))
	parsesExpr(t, "- - x", neg(neg(x)))
	parsesExpr(t, "- 1", neg(num(1)))
	parsesExpr(t, "-1.5", neg(dec(15, 1)))
	parsesExpr(t, "-0", neg(num(0)))
	parsesExpr(t, "-'a'", neg(str("a")))
	parsesExpr(t, "- x + y", op("+", neg(x), y))
	parsesExpr(t, "x - - y", op("-", x, neg(y)))
	parsesExpr(t, "x - -y - - - 1", op("-", op("-", x, neg(y)), neg(neg(num(1)))))
	parsesExpr(t, "- x * y", op("*", neg(x), y))
	parsesExpr(t, "x * - y", op("*", x, neg(y)))
	parsesExpr(t, "- x = - y", op("=", neg(x), neg(y)))
	parsesExpr(t, "- x is null", is(neg(x), "null"))
	parsesExpr(t, "- (x + y)", neg(op("+", x, y)))
	parsesExpr(t, "-f(-x)[-1].a", neg(step(at(call("f", neg(x)), neg(num(1))), "a")))
	parsesExpr(t, "-9223372036854775807", neg(num(math.MaxInt)))
	wrongAt(t, "select value -¤")
	wrongAt(t, "select value x -¤")
	wrongAt(t, "select value - ¤from t")
	wrongAt(t, "select value - ¤+ x from t")
	wrongAt(t, "select value ¤+ x from t")
	errs(t, "select value -9223372036854775808 from t", 14, api.ErrSyntax)
}

func TestIs(t *testing.T) {
	x, y := name("x"), name("y")
	for _, w := range []string{"null", "missing"} {
		parsesExpr(t, "x is "+w, is(x, w))
		parsesExpr(t, "x IS "+strings.ToUpper(w), is(x, w))
		parsesExpr(t, "x is not "+w, not(is(x, w)))
		parsesExpr(t, "x + y is "+w, is(op("+", x, y), w))
		parsesExpr(t, "x is "+w+" and y is not "+w, op("and", is(x, w), not(is(y, w))))
		parsesExpr(t, "not x is not "+w, not(not(is(x, w))))
		parsesExpr(t, "(x is "+w+") is "+w, is(is(x, w), w))
		parsesExpr(t, "(x is not "+w+") = y", op("=", not(is(x, w)), y))
		parsesExpr(t, "x.a[0] is "+w, is(at(path("x.a"), num(0)), w))
		parsesExpr(t, "? is "+w, is(param(0), w))
		parsesExpr(t, "null is "+w, is(null(), w))
		for _, behind := range []string{"is null", "= y", "+ y", "* y", ".a", "[0]", "null", "missing", "not null", "not y", "- y", "|| y"} {
			wrongAt(t, "select value x is "+w+" ¤"+behind+" from t")
			wrongAt(t, "select value x is not "+w+" ¤"+behind+" from t")
		}
		wrongAt(t, "select value x = y ¤is "+w+" from t")
		wrongAt(t, "select value ¤is "+w+" from t")
		wrongAt(t, "select value x is not ¤not "+w+" from t")
	}
	for _, what := range []string{"true", "false", "x", "1", "?", "'null'", "\"null\"", "(null)", "from t", "is null", "- 1"} {
		wrongAt(t, "select value x is ¤"+what)
		wrongAt(t, "select value x is not ¤"+what)
	}
	wrongAt(t, "select value x is¤")
	wrongAt(t, "select value x is not¤")
}

// P18.1: parameters are counted from the left, wherever they stand.
func TestParameters(t *testing.T) {
	s := picks("a b", op("+", param(0), param(1)), call("f", param(2), param(3)))
	s.From = []api.Source{along(step(at(param(4), param(5)), "x"), "y"), table("t", "t"), along(at(list(param(6)), record("a", neg(param(7)))), "z")}
	s.Where = []api.Expr{op("and", not(param(8)), is(op("=", param(9), param(10)), "null"))}
	s.Order, s.Desc = []api.Expr{param(11), param(12)}, []bool{true, false}
	s.Limit = 1
	parses(t, "select ? + ? as a, f(?, ?) as b from ?[?].x as y, t, [?][{'a': -?}] as z where not ? and (? = ?) is null order by ? desc, ? limit 1", s)
	u := api.Stmt{Kind: api.StmtUpdate, Table: "t", As: "t", Sets: []api.Expr{path("t.a"), path("t.b")}, To: []api.Expr{param(0), list(param(1), param(2))}, Where: []api.Expr{op("or", param(3), param(4))}}
	parses(t, "update t set t.a = ?, t.b = [?, ?] where ? or ?", u)
	parses(t, "delete from t where ?[?]", api.Stmt{Kind: api.StmtDelete, Table: "t", As: "t", Where: []api.Expr{at(param(0), param(1))}})
	parses(t, "insert into t value {'b': ?, 'a': ?}", api.Stmt{Kind: api.StmtInsert, Table: "t", To: []api.Expr{record("b a", param(0), param(1))}})
	parsesExpr(t, "? + '?' || ? * (? - \"?\") -- ?\n", op("||", op("+", param(0), str("?")), op("*", param(1), op("-", param(2), name("?")))))
	e := param(0)
	for i := range 499 {
		e = op("+", e, param(i+1))
	}
	if got, at, err := Parse("select value ?" + rep("+?", 499) + " from t"); !alike(got, selects(e)) || at != 0 || err != api.OK {
		t.Error(at, err)
	}
	wrongAt(t, "select value ? ¤? from t")
	wrongAt(t, "select value x.¤? from t")
	wrongAt(t, "select * from ?¤")
	wrongAt(t, "create table ¤?")
	wrongAt(t, "select * from t limit ¤?")
}

// P18.1: a struct's names

func TestMemberNames(t *testing.T) {
	parsesExpr(t, "{'b': 1, 'a': 2, 'B': 3}", record("b a B", num(1), num(2), num(3)))
	for _, n := range []string{"it's", "\n", "a b", "é", "select", "\"", "\x00", rep("n", api.MaxName), rep("\xff", api.MaxName), rep("'", api.MaxName)} {
		e := record("x", num(1))
		e.Names[0] = n
		parsesExpr(t, "{"+quoted(n)+": 1}", e)
		wrongAt(t, "select value {"+quoted(n)+": 1, 'x': 2, ¤"+quoted(n)+": 3} from t")
	}
	wrongAt(t, "select value {¤'': 1} from t")
	wrongAt(t, "select value {'a': 1, ¤'': 1} from t")
	wrongAt(t, "select value {¤"+quoted(rep("n", api.MaxName+1))+": 1} from t")
	wrongAt(t, "select value {'a': 1, ¤"+quoted(rep("'", api.MaxName+1))+": 1} from t")
	wrongAt(t, "select value {¤"+quoted(rep("\xff", api.MaxName+1))+": 1} from t")
	wrongAt(t, "select value {¤"+quoted(rep("n", 1000))+": 1} from t")
	wrongAt(t, "select value {'a': 1, ¤'a': 2} from t")
	wrongAt(t, "select value {'a': 1, 'b': 2, ¤'a': 2} from t")
	wrongAt(t, "select value {'a': 1, 'b': 2, ¤'b' 2} from t")
	wrongAt(t, "select value {'a': {'a': 1, ¤'a': 2}} from t")
	// The one within has names of its own.
	parsesExpr(t, "{'a': {'a': {'a': 1}}, 'b': {'a': 2, 'b': 3}}", record("a b", record("a", record("a", num(1))), record("a b", num(2), num(3))))
	wrongAt(t, "select value {'a': {'b': 1}, ¤'a': 2} from t")
}

// P18.1: at most MaxNest within one another

// nests are ways to lay one within another: what stands ahead, how much of it is ahead of what is within, what
// stands behind, and the inmost.
var nests = []struct {
	ahead      string
	first      int
	behind, in string
}{
	{"(", 1, ")", "1"}, {"[", 1, "]", "1"}, {"[1, ", 1, "]", "1"}, {"[", 1, ", 1]", "1"}, {"{'a': ", 6, "}", "1"}, {"{'b': 1, 'a': ", 6, "}", "1"}, {"f(", 2, ")", "1"}, {"f(1, ", 2, ")", "1"}, {"x[", 2, "]", "1"}, {"1 + x.a[", 8, "].b * 2", "1"}, {"not ", 4, "", "1"}, {"- ", 2, "", "1"}, {"(1 = x or ", 1, ")", "1"}, {"(1 * ", 1, ")", "x"},
}

func TestNest(t *testing.T) {
	for _, n := range nests {
		deep := func(count int) string { return rep(n.ahead, count) + n.in + rep(n.behind, count) }
		if _, at, e := Parse("select value " + deep(39) + " from t"); at != 0 || e != api.OK {
			t.Error(n, at, e)
		}
		for _, count := range []int{39, 40, 41, 80} {
			asTheChapter(t, "select value "+deep(count)+" from t")
			for _, start := range []string{"select value ", "insert into t value ", "delete from t where ", "update t set t.a = ", "select * from t order by ", "select * from t where ", "select ", "select x as y, ", "update t set t.a = 1, t.b = "} {
				if count > 39 {
					errs(t, start+deep(count)+" as x from t", len(start)+39*len(n.ahead)+n.first, api.ErrDeep)
				}
			}
		}
	}
	for _, s := range []string{rep("[", 40) + rep("]", 40), rep("{'a': ", 39) + "{}" + rep("}", 39), rep("f(", 40) + rep(")", 40)} {
		if _, at, e := Parse("select value " + s + " from t"); at != 0 || e != api.OK {
			t.Error(s, at, e)
		}
		asTheChapter(t, "select value "+s+" from t")
	}
}

// What is left is counted no more, and what binds to the left not at all.
func TestNestLeft(t *testing.T) {
	deep := rep("(", 39) + "1" + rep(")", 39)
	for _, s := range []string{deep + " + " + deep, deep + " = " + deep, deep + " or " + deep + " and " + deep, "[" + deep[1:len(deep)-1] + ", " + deep[1:len(deep)-1] + "]", "{'a': " + deep[1:len(deep)-1] + ", 'b': " + deep[1:len(deep)-1] + "}", "x[" + deep[1:len(deep)-1] + "][" + deep[1:len(deep)-1] + "]", rep("not ", 39) + "x or " + rep("not ", 39) + "x", rep("- ", 39) + "x * " + rep("- ", 39) + "x", rep("not ", 20) + rep("- ", 19) + "1 = " + rep("- ", 19) + "1", rep("not ", 39) + "x and y and " + deep, rep("- ", 39) + "x + " + deep, "x" + rep("[0]", 200), "x" + rep(".a", 200), "x" + rep(" + y", 200), "x" + rep(" is null or x", 100), "not x" + rep(" and not x", 200), "-x" + rep(" * -x", 200)} {
		if _, at, e := Parse("select value " + s + " from t where " + deep + " order by " + deep + ", " + deep); at != 0 || e != api.OK {
			t.Error(s, at, e)
		}
		asTheChapter(t, "select value "+s+" from t where "+deep)
		errs(t, "select value "+s+" from t where ("+deep+")", len("select value "+s+" from t where ")+40, api.ErrDeep)
	}
	errs(t, "select value "+rep("not ", 20)+rep("- ", 20)+"1", 13+80+40, api.ErrDeep)
	errs(t, "select value "+rep("not ", 20)+"x = "+rep("- ", 20)+"1", 13+80+4+40, api.ErrDeep)
	errs(t, "select value "+rep("- ", 39)+"x[0]", 13+78+2, api.ErrDeep)
	errs(t, "select value "+rep("not ", 39)+"(x)", 13+156+1, api.ErrDeep)
	errs(t, "select value "+rep("- (", 20)+"x", 13+60, api.ErrDeep)
}

// A path of a source and a place are no expressions.
func TestNestOfPaths(t *testing.T) {
	deep := rep("(", 40) + "x.a" + rep(")", 40)
	s := "select * from " + deep + " as y, " + deep + ".b as z"
	if _, at, e := Parse(s); at != 0 || e != api.OK {
		t.Error(at, e)
	}
	asTheChapter(t, s)
	errs(t, "select * from ("+deep+") as y", 14+41, api.ErrDeep)
	errs(t, "select * from t, ("+deep+") as y", 17+41, api.ErrDeep)
	errs(t, "select * from x["+rep("(", 40)+"1", 16+40, api.ErrDeep)
	parses(t, "update t set t"+rep(".a", 200)+" = 1", api.Stmt{Kind: api.StmtUpdate, Table: "t", As: "t", Sets: []api.Expr{path("t" + rep(".a", 200))}, To: []api.Expr{num(1)}})
}

// A token that cannot stand where it stands is ErrSyntax, however deep.
func TestSyntaxAheadOfDeep(t *testing.T) {
	for _, s := range []string{")", "]", "from", "+ 1", "", "missing", ",", ":", "as"} {
		wrongAt(t, "select value "+rep("(", 40)+"¤"+s)
		wrongAt(t, "select value "+rep("not ", 40)+"¤"+s)
		wrongAt(t, "select value "+rep("- ", 40)+"¤"+s)
		wrongAt(t, "select value "+rep("{'a': ", 40)+"¤"+s)
		wrongAt(t, "select value "+rep("x[", 40)+"¤"+s)
	}
	wrongAt(t, "select value "+rep("- ", 40)+"¤not 1")
	wrongAt(t, "select value "+rep("[", 39)+"{¤[")
	errs(t, "select value "+rep("(", 40)+"not", 53, api.ErrDeep)
	errs(t, "select value "+rep("(", 40)+"-", 53, api.ErrDeep)
	errs(t, "select value "+rep("(", 40)+"[", 53, api.ErrDeep)
	errs(t, "select value "+rep("(", 40)+"{", 53, api.ErrDeep)
	errs(t, "select value "+rep("(", 40)+"?", 53, api.ErrDeep)
	errs(t, "select value "+rep("(", 40)+"null", 53, api.ErrDeep)
	errs(t, "select value "+rep("(", 40)+"''", 53, api.ErrDeep)
	errs(t, "select value "+rep("(", 40)+"1.5", 53, api.ErrDeep)
	errs(t, "select value "+rep("(", 40)+"x", 53, api.ErrDeep)
	errs(t, "select value "+rep("(", 60), 53, api.ErrDeep)
	// Ahead of it all else is told as ever.
	errs(t, "select value ) "+rep("(", 60), 13, api.ErrSyntax)
	errs(t, "select value "+rep("(", 60)+" )", 53, api.ErrDeep)
}

// P18.1: at most MaxFields members

// lists are lists of each kind: what stands ahead, a member and what goes between, what stands behind.
var lists = []struct{ ahead, member, behind string }{
	{"select ", "a", " from t"}, {"select ", "1 as a", " from t"}, {"select ", "x.a", " from t"},
	{"select * from ", "t", ""}, {"select * from ", "t as x", ""}, {"select * from ", "x.a as y", ""}, {"select * from ", "meta(t) as x", " where 1"},
	{"select * from t order by ", "a", ""}, {"select * from t order by ", "a desc", " limit 1"},
	{"update t set ", "t.a = 1", ""}, {"update t set ", "t.a = 1", " where 1"},
	{"select value f(", "1", ") from t"}, {"select value [", "1", "] from t"}, {"select value [", "[1, 2]", "] from t"}, {"select value x[[", "'a'", "]] from t"},
	{"insert into t value f(", "x", ")"}, {"insert into t value [", "- 1", "]"},
	{"select value [0, 1, [", "1", "], 2] from t"},
}

func TestManyMembers(t *testing.T) {
	for _, l := range lists {
		many := func(n int) string { return l.ahead + rep(l.member+",", n-1) + l.member }
		for _, n := range []int{1, 2, 199, 200} {
			if _, at, e := Parse(many(n) + l.behind); at != 0 || e != api.OK {
				t.Error(cut(many(n)), at, e)
			}
			asTheChapter(t, many(n)+l.behind)
		}
		place := len(l.ahead) + 200*(len(l.member)+1)
		for _, n := range []int{201, 202} {
			errs(t, many(n)+l.behind, place, api.ErrLong)
			errs(t, many(n), place, api.ErrLong)
		}
		// One that cannot stand there is none.
		for _, s := range []string{"", ",", "]", ")", ";", "from t", "= 2"} {
			wrongAt(t, many(200)+",¤"+s)
		}
		// Behind its first token nothing is looked at any more.
		first, _, _ := strings.Cut(strings.Trim(l.member, "["), " ")
		errs(t, many(200)+", "+first+" 'x' 'y'", place+1, api.ErrLong)
	}
}

func TestManyFields(t *testing.T) {
	members := func(n int) (string, api.Expr) {
		var l []string
		e := record("")
		for i := range n {
			l = append(l, fmt.Sprintf("'n%d':1", i))
			e.Names = append(e.Names, fmt.Sprintf("n%d", i))
			e.Kids = append(e.Kids, num(1))
		}
		return strings.Join(l, ","), e
	}
	for _, n := range []int{199, 200} {
		s, e := members(n)
		parses(t, "insert into t value {"+s+"}", api.Stmt{Kind: api.StmtInsert, Table: "t", To: []api.Expr{e}})
		few, f := members(50)
		parses(t, "insert into t value [{"+s+"}, {"+few+"}]", api.Stmt{Kind: api.StmtInsert, Table: "t", To: []api.Expr{list(e, f)}})
	}
	full, _ := members(200)
	s := "insert into t value {" + full
	errs(t, s+",'x':1}", len(s)+1, api.ErrLong)
	errs(t, s+", 'x'", len(s)+2, api.ErrLong)
	errs(t, s+", 'x' 'y' '", len(s)+10, api.ErrSyntax)
	// A name that cannot stand there is ErrSyntax, be it one too many or not.
	wrongAt(t, s+",¤'n0':1}")
	wrongAt(t, s+",¤'':1}")
	wrongAt(t, s+",¤x:1}")
	wrongAt(t, s+",¤}")
	wrongAt(t, s+",¤"+quoted(rep("n", 41))+":1}")
}

// Lists in each other are counted by themselves.
func TestMembersOfEach(t *testing.T) {
	for _, s := range []string{
		"select value [[" + rep("1,", 199) + "1],[" + rep("1,", 199) + "1]," + rep("1,", 197) + "f(" + rep("1,", 199) + "1)] from t",
		"select value [" + rep("[1,2],", 199) + "{'a':1}] from t",
		"select " + rep("a,", 199) + "f(" + rep("a,", 199) + "a).b from " + rep("t,", 199) + "t order by " + rep("a,", 199) + "a",
	} {
		if _, at, e := Parse(s); at != 0 || e != api.OK {
			t.Error(cut(s), at, e)
		}
		asTheChapter(t, s)
	}
	s := "select value [" + rep("[1,2],", 200)
	errs(t, s+"1", len(s), api.ErrLong)
	s = "select " + rep("a,", 199) + "f(" + rep("a,", 199) + "a).b, "
	errs(t, s+"a from t", len(s), api.ErrLong)
	// What comes first is told, be it too deep or one too many.
	errs(t, "select value ["+rep("1,", 200)+rep("(", 60), 414, api.ErrLong)
	errs(t, "select value ["+rep("1,", 199)+rep("(", 60), 412+39, api.ErrDeep)
	errs(t, "select value "+rep("[", 39)+"["+rep("1,", 200)+"1", 13+40, api.ErrDeep)
	errs(t, "select value "+rep("[", 39)+rep("1,", 200)+"1", 13+39+400, api.ErrLong)
}
