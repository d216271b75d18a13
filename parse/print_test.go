package parse

import (
	"fmt"
	"math"
	"math/rand"
	"strings"
	"testing"

	"scrivener/api"
)

// P18.2: what Print and Expr print

func TestPrintExpressions(t *testing.T) {
	x, y := name("x"), name("y")
	printsExpr(t, num(0), "0")
	printsExpr(t, num(math.MaxInt), "9223372036854775807")
	printsExpr(t, dec(15, 1), "1.5")
	printsExpr(t, dec(1, 18), "0.000000000000000001")
	printsExpr(t, dec(math.MaxInt, 3), "9223372036854775.807")
	printsExpr(t, str(""), "''")
	printsExpr(t, str("it's"), "'it''s'")
	printsExpr(t, str("\n\\\xff \x7f"), `'\0a\5c\ff \7f'`)
	printsExpr(t, str("x, y ( [ {"), "'x, y ( [ {'")
	printsExpr(t, null(), "null")
	printsExpr(t, truth(0), "false")
	printsExpr(t, truth(1), "true")
	printsExpr(t, param(0), "?")
	printsExpr(t, param(7), "?")
	printsExpr(t, x, "x")
	printsExpr(t, path("x.a.b"), "x.a.b")
	printsExpr(t, at(x, num(0)), "x[0]")
	printsExpr(t, at(x, op("+", y, num(1))), "x[(y + 1)]")
	printsExpr(t, at(x, list(y)), "x[[y]]")
	printsExpr(t, at(at(x, y), x), "x[y][x]")
	for s := range operators() {
		printsExpr(t, op(told(s), x, y), "(x "+told(s)+" y)")
		printsExpr(t, op(told(s), op(told(s), x, num(1)), op(told(s), y, num(2))), "((x "+told(s)+" 1) "+told(s)+" (y "+told(s)+" 2))")
	}
	printsExpr(t, not(x), "(not x)")
	printsExpr(t, not(not(x)), "(not (not x))")
	printsExpr(t, neg(x), "(- x)")
	printsExpr(t, neg(neg(num(1))), "(- (- 1))")
	printsExpr(t, op("-", x, neg(y)), "(x - (- y))")
	printsExpr(t, is(x, "null"), "(x is null)")
	printsExpr(t, is(neg(x), "missing"), "((- x) is missing)")
	printsExpr(t, not(is(x, "missing")), "(not (x is missing))")
	printsExpr(t, list(), "[]")
	printsExpr(t, list(x), "[x]")
	printsExpr(t, list(x, list(), list(y, op("*", x, y))), "[x, [], [y, (x * y)]]")
	printsExpr(t, record(""), "{}")
	printsExpr(t, record("a", x), "{'a': x}")
	printsExpr(t, record("b a", record(""), record("a", list(record("")))), "{'b': {}, 'a': {'a': [{}]}}")
	printsExpr(t, call("f"), "f()")
	printsExpr(t, call("f", x), "f(x)")
	printsExpr(t, call("f", record("a", x), neg(y), call("f", call("f"))), "f({'a': x}, (- y), f(f()))")
	printsExpr(t, op("=", list(x), record("a", y)), "([x] = {'a': y})")
	printsExpr(t, op("||", call("f"), at(x, y)), "(f() || x[y])")
	printsExpr(t, not(list(x)), "(not [x])")
	printsExpr(t, neg(record("")), "(- {})")
}

// A number ahead of a point stands in brackets, and nothing else of itself.
func TestPrintSteps(t *testing.T) {
	x := name("x")
	printsExpr(t, step(num(1), "a"), "(1).a")
	printsExpr(t, step(step(num(0), "a"), "b"), "(0).a.b")
	printsExpr(t, step(dec(15, 1), "a"), "(1.5).a")
	printsExpr(t, at(num(1), x), "1[x]")
	printsExpr(t, at(dec(15, 1), num(2)), "1.5[2]")
	printsExpr(t, step(at(num(1), num(2)), "a"), "1[2].a")
	printsExpr(t, at(step(num(1), "a"), num(2)), "(1).a[2]")
	printsExpr(t, step(str("x"), "a"), "'x'.a")
	printsExpr(t, step(null(), "a"), "null.a")
	printsExpr(t, step(truth(1), "a"), "true.a")
	printsExpr(t, step(param(0), "a"), "?.a")
	printsExpr(t, at(param(3), param(4)), "?[?]")
	printsExpr(t, step(list(num(1)), "a"), "[1].a")
	printsExpr(t, at(list(), num(1)), "[][1]")
	printsExpr(t, step(record("a", num(1)), "a"), "{'a': 1}.a")
	printsExpr(t, step(call("f", num(1)), "a"), "f(1).a")
	printsExpr(t, step(op("+", x, num(1)), "a"), "(x + 1).a")
	printsExpr(t, step(not(x), "a"), "(not x).a")
	printsExpr(t, step(neg(num(1)), "a"), "(- 1).a")
	printsExpr(t, at(is(x, "null"), x), "(x is null)[x]")
}

func TestPrintNames(t *testing.T) {
	for _, s := range []string{"x", "X", "_", "_1", "a_9", "selects", "Orders", "nul", "e1", rep("n", 40), rep("n", 41), rep("_", 3000)} {
		printsName(t, s, s)
	}
	for _, s := range append(strings.Fields(allWords), "SELECT", "Order", "nULL", "1", "1a", "a b", " ", "a.b", "a-b", "é", "'", "it's", "--", "\n", "\x00", "\xff", "?", "(", "*", "a\x80", "x ", " x", "x\n", "x--", rep("n", 39)+"-", rep("\xff", 40)) {
		printsName(t, s, `"`+s+`"`)
	}
	for _, s := range []string{"", `"`, `a"b`, `"x"`, rep("n", 40) + "-", rep(" ", 41), rep("\xff", 41), rep("é", 21), "1" + rep("n", 40), rep("n", 5000) + " ", rep("n", 5000) + `"`} {
		refusesExpr(t, name(s))
		refusesExpr(t, step(name("x"), s))
		refusesExpr(t, call(s))
		for _, x := range withName(s) {
			refuses(t, x)
		}
	}
}

// withName are statements with this name at each place that has one.
func withName(s string) []api.Stmt {
	one := []api.Expr{num(1)}
	return []api.Stmt{
		{Kind: api.StmtTable, Table: s}, {Kind: api.StmtDrop, Table: s}, {Kind: api.StmtIndex, Table: s, Field: "f"}, {Kind: api.StmtIndex, Table: "t", Field: s},
		{Kind: api.StmtInsert, Table: s, To: one}, {Kind: api.StmtDelete, Table: s, As: "x"}, {Kind: api.StmtDelete, Table: "t", As: s},
		{Kind: api.StmtUpdate, Table: s, As: "x", Sets: []api.Expr{path("x.a")}, To: one}, {Kind: api.StmtUpdate, Table: "t", As: s, Sets: []api.Expr{path("x.a")}, To: one},
		{Kind: api.StmtUpdate, Table: "t", As: "x", Sets: []api.Expr{step(name(s), "a")}, To: one}, {Kind: api.StmtUpdate, Table: "t", As: "x", Sets: []api.Expr{step(name("x"), s)}, To: one},
		from(table(s, "x")), from(table("t", s)), from(history(s, "x")), from(history("t", s)), from(meta(s, "x")), from(meta("t", s)), from(along(path("x.a"), s)), from(table("t", "t"), table(s, "x")),
		{Kind: api.StmtSelect, What: one, Names: []string{s}, From: []api.Source{table("t", "t")}, Limit: -1},
	}
}

func printsName(t *testing.T, s, want string) {
	t.Helper()
	printsExpr(t, name(s), want)
	printsExpr(t, step(name(s), s), want+"."+want)
	printsExpr(t, call(s, name(s)), want+"("+want+")")
	texts := []string{"create table N", "drop table N", "create index on N (f)", "create index on t (N)", "insert into N value 1", "delete from N as x", "delete from t as N", "update N as x set x.a = 1", "update t as N set x.a = 1", "update t as x set N.a = 1", "update t as x set x.N = 1", "select * from N as x", "select * from t as N", "select * from history (N) as x", "select * from history (t) as N", "select * from meta (N) as x", "select * from meta (t) as N", "select * from x.a as N", "select * from t as t, N as x", "select 1 as N from t as t"}
	for i, x := range withName(s) {
		prints(t, x, strings.Replace(texts[i], "N", want, 1))
	}
}

func TestPrintSelects(t *testing.T) {
	prints(t, from(), "select * from t as t")
	prints(t, from(table("t", "x"), history("h", "y"), meta("m", "z"), along(path("x.a"), "v"), along(at(step(num(1), "a"), num(0)), "w")), "select * from t as x, history (h) as y, meta (m) as z, x.a as v, (1).a[0] as w")
	prints(t, selects(op("+", num(1), num(2))), "select value (1 + 2) from t as t")
	prints(t, selects(list()), "select value [] from t as t")
	prints(t, selects(record("a", num(1))), "select value {'a': 1} from t as t")
	prints(t, picks("a", path("x.a")), "select x.a as a from t as t")
	prints(t, picks("x b a", name("x"), path("x.a"), num(1)), "select x as x, x.a as b, 1 as a from t as t")
	s := from()
	s.Where = []api.Expr{op("and", op("=", path("x.b"), num(1)), not(name("y")))}
	prints(t, s, "select * from t as t where ((x.b = 1) and (not y))")
	s.Order, s.Desc = []api.Expr{name("x")}, []bool{false}
	prints(t, s, "select * from t as t where ((x.b = 1) and (not y)) order by x")
	s.Where = nil
	s.Limit = 0
	s.Order, s.Desc = []api.Expr{name("x"), neg(name("y")), num(1)}, []bool{true, false, true}
	prints(t, s, "select * from t as t order by x desc, (- y), 1 desc limit 0")
	s.Order, s.Desc = nil, nil
	s.Limit = math.MaxInt
	prints(t, s, "select * from t as t limit 9223372036854775807")
	s.Where = []api.Expr{name("x")}
	prints(t, s, "select * from t as t where x limit 9223372036854775807")
	prints(t, from(along(step(op("+", name("a"), name("b")), "c"), "x")), "select * from (a + b).c as x")
	prints(t, from(along(at(call("f", num(1)), num(2)), "x")), "select * from f(1)[2] as x")
}

func TestPrintOthers(t *testing.T) {
	prints(t, api.Stmt{Kind: api.StmtInsert, Table: "t", To: []api.Expr{record("a", param(0))}}, "insert into t value {'a': ?}")
	prints(t, api.Stmt{Kind: api.StmtInsert, Table: "t", To: []api.Expr{op("or", name("x"), name("y"))}}, "insert into t value (x or y)")
	u := api.Stmt{Kind: api.StmtUpdate, Table: "t", As: "t", Sets: []api.Expr{path("t.a")}, To: []api.Expr{num(1)}}
	prints(t, u, "update t as t set t.a = 1")
	u.As = "x"
	u.Sets = []api.Expr{path("x.a.b"), path("y.c")}
	u.To = []api.Expr{neg(path("x.d")), list(num(1))}
	prints(t, u, "update t as x set x.a.b = (- x.d), y.c = [1]")
	u.Where = []api.Expr{not(is(name("x"), "missing"))}
	prints(t, u, "update t as x set x.a.b = (- x.d), y.c = [1] where (not (x is missing))")
	d := api.Stmt{Kind: api.StmtDelete, Table: "t", As: "t"}
	prints(t, d, "delete from t as t")
	d.Where = []api.Expr{op("or", is(path("t.a"), "null"), op("!=", path("t.b"), dec(15, 1)))}
	prints(t, d, "delete from t as t where ((t.a is null) or (t.b != 1.5))")
	prints(t, api.Stmt{Kind: api.StmtTable, Table: "order"}, `create table "order"`)
	prints(t, api.Stmt{Kind: api.StmtDrop, Table: "t"}, "drop table t")
	prints(t, api.Stmt{Kind: api.StmtIndex, Table: "t", Field: "f"}, "create index on t (f)")
}

// Parameters are those that come next: of a statement from 0 on, of an expression alone from any on.
func TestPrintParameters(t *testing.T) {
	printsExpr(t, list(param(3), param(4), op("+", param(5), param(6))), "[?, ?, (? + ?)]")
	printsExpr(t, list(param(4095), num(1), param(4096)), "[?, 1, ?]")
	printsExpr(t, list(param(math.MaxInt-1), param(math.MaxInt)), "[?, ?]")
	exprAsTheChapter(t, list(param(math.MaxInt), param(math.MinInt)))
	for _, l := range [][]int{{-1}, {math.MinInt}, {0, 0}, {1, 0}, {0, 2}, {3, 3}, {3, 5}, {3, 2}, {-1, 0}, {0, 1, 3}, {0, 1, 1}, {0, 1, 0}, {math.MaxInt, math.MinInt}, {math.MaxInt, 0}, {math.MaxInt, -1}, {0, -1}, {5, 6, 5}} {
		var e []api.Expr
		for _, n := range l {
			e = append(e, param(n))
		}
		refusesExpr(t, list(e...))
		refusesExpr(t, call("f", e...))
		refuses(t, selects(list(e...)))
	}
	refuses(t, selects(param(1)))
	refuses(t, selects(list(param(1), param(2))))
	s := picks("a b", param(0), param(1))
	s.From = []api.Source{along(at(name("x"), param(2)), "y"), table("t", "t"), along(at(name("x"), param(3)), "z")}
	s.Where = []api.Expr{param(4)}
	s.Order, s.Desc = []api.Expr{param(5), param(6)}, []bool{false, true}
	prints(t, s, "select ? as a, ? as b from x[?] as y, t as t, x[?] as z where ? order by ?, ? desc")
	for _, e := range []*api.Expr{&s.What[0], &s.What[1], &s.From[0].Path.Kids[1], &s.From[2].Path.Kids[1], &s.Where[0], &s.Order[0], &s.Order[1]} {
		was := *e
		for _, n := range []int{-1, 0, 1, 2, 3, 4, 5, 6, 7} {
			if *e = param(n); n != was.Int {
				refuses(t, s)
			}
		}
		*e = was
	}
	u := api.Stmt{Kind: api.StmtUpdate, Table: "t", As: "t", Sets: []api.Expr{path("t.a"), path("t.b")}, To: []api.Expr{param(0), param(1)}, Where: []api.Expr{param(2)}}
	prints(t, u, "update t as t set t.a = ?, t.b = ? where ?")
	u.To[0], u.To[1] = u.To[1], u.To[0]
	refuses(t, u)
	refuses(t, api.Stmt{Kind: api.StmtDelete, Table: "t", As: "t", Where: []api.Expr{param(1)}})
	refuses(t, api.Stmt{Kind: api.StmtInsert, Table: "t", To: []api.Expr{param(1)}})
}

// P18.2: what they refuse

// spoilt are all expressions that come of one by putting something into one of its own fields.
func spoilt(e api.Expr) []api.Expr {
	var out []api.Expr
	add := func(change func(x *api.Expr)) {
		x := e
		change(&x)
		if !alikeExpr(x, e) {
			out = append(out, x)
		}
	}
	for kind := -1; kind <= 14; kind++ {
		add(func(x *api.Expr) { x.Kind = kind })
	}
	for _, n := range []int{-1, 1, math.MaxInt, math.MinInt} {
		add(func(x *api.Expr) { x.Int = n })
	}
	for _, s := range []string{"", "x", "null", "missing", "true", "and", "or", "not", "AND", "Null", "is", "<>", "!=", "==", "/", "+", "-", "||", "|", " +", "\"", "is not null"} {
		add(func(x *api.Expr) { x.Text = s })
	}
	for _, v := range []api.Value{{}, {Kind: api.Null}, {Kind: api.Int}, {Int: 1}, {Scale: 1}, {Text: "x"}, {Names: []string{"x"}}, {Kids: []api.Value{{}}}} {
		add(func(x *api.Expr) { x.Value = v })
	}
	for _, l := range [][]string{nil, {"x"}, {""}, {"x", "y"}, {"x", "x"}, {"y", "x", "z"}} {
		add(func(x *api.Expr) { x.Names = l })
	}
	for _, l := range [][]api.Expr{nil, {num(1)}, {{}}, {num(1), num(2)}, {name("x"), {}}, {num(1), num(2), num(3)}} {
		add(func(x *api.Expr) { x.Kids = l })
	}
	return out
}

// each is an expression of each kind.
func each() []api.Expr {
	x, y := name("x"), name("y")
	return []api.Expr{num(1), dec(15, 1), str("a"), null(), truth(1), param(0), x, path("x.a"), at(x, y), op("+", x, y), op("and", x, y), not(x), neg(x), is(x, "null"), is(x, "missing"), list(), list(x), list(x, y), record(""), record("a", x), record("b a", x, y), call("f"), call("f", x), call("f", x, y)}
}

func TestSpoiltExpressions(t *testing.T) {
	taken := 0
	for _, e := range each() {
		exprAsTheChapter(t, e)
		for _, x := range spoilt(e) {
			exprAsTheChapter(t, x)
			printsAsTheChapter(t, selects(x))
			printsAsTheChapter(t, from(along(x, "y")))
			printsAsTheChapter(t, api.Stmt{Kind: api.StmtUpdate, Table: "t", As: "t", Sets: []api.Expr{x}, To: []api.Expr{num(1)}})
			exprAsTheChapter(t, list(num(1), x))
			exprAsTheChapter(t, not(x))
			if _, err := Expr(x); err == api.OK {
				taken++
			}
			// Two at once.
			if len(x.Kids) > 0 {
				for _, z := range spoilt(x)[:16] {
					exprAsTheChapter(t, z)
				}
			}
		}
	}
	if taken < 50 {
		t.Error("few were taken:", taken)
	}
}

func TestRefusedKinds(t *testing.T) {
	x := name("x")
	for _, e := range []api.Expr{{}, {Kind: -1}, {Kind: 13}, {Kind: math.MaxInt}, {Kind: math.MinInt}, {Text: "x"}, {Kids: []api.Expr{x}}, {Kind: 13, Kids: []api.Expr{x, x}}} {
		refusesExpr(t, e)
	}
	for kind := api.ExprValue; kind <= api.ExprCall; kind++ {
		for n := range 4 {
			e := api.Expr{Kind: kind, Kids: []api.Expr{x, x, x}[:n]}
			for _, s := range []string{"", "+", "null", "f"} {
				e.Text = s
				exprAsTheChapter(t, e)
			}
		}
	}
}

func TestRefusedValues(t *testing.T) {
	for _, v := range []api.Value{
		{}, {Kind: 10}, {Kind: -1}, {Kind: api.Time}, {Kind: api.Time, Int: 7}, {Kind: api.Blob}, {Kind: api.Blob, Text: "a"}, {Kind: api.List}, {Kind: api.List, Kids: []api.Value{{Kind: api.Null}}}, {Kind: api.Struct}, {Kind: api.Struct, Names: []string{"a"}, Kids: []api.Value{{Kind: api.Null}}},
		{Kind: api.Int, Int: -1}, {Kind: api.Int, Int: math.MinInt}, {Kind: api.Decimal, Int: -15, Scale: 1}, {Kind: api.Decimal, Int: math.MinInt, Scale: 18}, {Kind: api.Decimal, Int: -1, Scale: 18},
		{Kind: api.Bool, Int: 2}, {Kind: api.Bool, Int: -1}, {Kind: api.Bool, Text: "x"}, {Kind: api.Null, Int: 1}, {Kind: api.Null, Text: "x"}, {Kind: api.Int, Scale: 1}, {Kind: api.Int, Int: 15, Scale: 1}, {Kind: api.Int, Text: "x"}, {Kind: api.Int, Names: []string{"x"}}, {Kind: api.Int, Kids: []api.Value{{Kind: api.Null}}},
		{Kind: api.Decimal}, {Kind: api.Decimal, Int: 5}, {Kind: api.Decimal, Int: 0, Scale: 1}, {Kind: api.Decimal, Int: 20, Scale: 1}, {Kind: api.Decimal, Int: 1, Scale: 19}, {Kind: api.Decimal, Int: 1, Scale: -1}, {Kind: api.Decimal, Int: 1, Scale: math.MaxInt},
		{Kind: api.Text, Int: 1}, {Kind: api.Text, Text: "x", Scale: 1}, {Kind: api.Text, Text: rep("x", 1<<14+1)}, {Kind: api.Text, Kids: []api.Value{{}}},
	} {
		refusesExpr(t, lit(v))
	}
	printsExpr(t, str(rep("x", 1<<14)), "'"+rep("x", 1<<14)+"'")
}

func TestRefusedOperators(t *testing.T) {
	x := name("x")
	for _, s := range []string{"", "<>", "==", "/", "%", "!", "not", "is", "AND", "Or", "null", ",", ".", "(", "+ ", "--", "- ", "= x or x ="} {
		refusesExpr(t, op(s, x, x))
	}
	for _, s := range []string{"", "true", "false", "x", "NULL", "not null", "is", "null ", "mis"} {
		refusesExpr(t, is(x, s))
	}
}

func TestRefusedStructs(t *testing.T) {
	one := num(1)
	for _, x := range []struct {
		names []string
		kids  int
	}{{[]string{"a"}, 0}, {nil, 1}, {[]string{"a", "b"}, 1}, {[]string{"a"}, 2}, {[]string{""}, 1}, {[]string{"a", ""}, 2}, {[]string{rep("n", 41)}, 1}, {[]string{"a", "a"}, 2}, {[]string{"a", "b", "a"}, 3}, {[]string{"b", "a", "a"}, 3}, {[]string{"a", "a", "b"}, 3}} {
		e := api.Expr{Kind: api.ExprStruct, Names: x.names}
		for range x.kids {
			e.Kids = append(e.Kids, one)
		}
		refusesExpr(t, e)
	}
	for _, n := range []string{"a", "\"", "'", "\x00", "é", "select", "a b", rep("n", 40), rep("\xff", 40)} {
		e := record("x", one)
		e.Names[0] = n
		printsExpr(t, e, "{"+quoted(n)+": 1}")
	}
}

// TestMostMembers: lists of each kind may have MaxFields members, and no more.
func TestMostMembers(t *testing.T) {
	many := func(n int) []api.Expr {
		var l []api.Expr
		for range n {
			l = append(l, num(1))
		}
		return l
	}
	wide := func(n int) api.Expr {
		e := api.Expr{Kind: api.ExprStruct, Kids: many(n)}
		for i := range n {
			e.Names = append(e.Names, fmt.Sprint(i))
		}
		return e
	}
	for _, n := range []int{199, 200, 201, 202, 1000} {
		items := picks(rep("a ", n), many(n)...)
		order := from()
		order.Order, order.Desc = many(n), make([]bool, n)
		sources := from()
		sets := api.Stmt{Kind: api.StmtUpdate, Table: "t", As: "t", To: many(n)}
		for range n {
			sources.From = append(sources.From, table("t", "t"))
			sets.Sets = append(sets.Sets, path("t.a"))
		}
		sources.From = sources.From[:n]
		for _, s := range []api.Stmt{items, order, sources, sets, selects(list(many(n)...)), selects(call("f", many(n)...)), selects(wide(n)), selects(list(wide(n), list(many(n)...)))} {
			if n > 200 {
				refuses(t, s)
			} else if _, e := Print(s); e != api.OK {
				t.Error(n, short(s), e)
			}
			printsAsTheChapter(t, s)
		}
	}
}

func TestDeep(t *testing.T) {
	x := name("x")
	ways := []func(e api.Expr) api.Expr{not, neg, func(e api.Expr) api.Expr { return list(e) }, func(e api.Expr) api.Expr { return list(x, e) }, func(e api.Expr) api.Expr { return op("+", e, x) }, func(e api.Expr) api.Expr { return op("+", x, e) }, func(e api.Expr) api.Expr { return at(e, x) }, func(e api.Expr) api.Expr { return at(x, e) }, func(e api.Expr) api.Expr { return step(e, "a") }, func(e api.Expr) api.Expr { return call("f", e) }, func(e api.Expr) api.Expr { return record("a", e) }, func(e api.Expr) api.Expr { return is(e, "null") }}
	for _, way := range ways {
		e := x
		for n := 1; n <= 503; n++ {
			if n == 1 || n > 498 {
				s, err := Expr(e)
				if n > 500 && (s != "" || err != api.ErrForm) || n <= 500 && (s == "" || err != api.OK) {
					t.Error(n, cut(s), err)
				}
				exprAsTheChapter(t, e)
				where := from()
				where.Where = []api.Expr{e}
				for _, s := range []api.Stmt{selects(e), where, {Kind: api.StmtInsert, Table: "t", To: []api.Expr{e}}} {
					if p, err := Print(s); n > 500 && (p != "" || err != api.ErrForm) || n <= 500 && (p == "" || err != api.OK) {
						t.Error(n, cut(p), err)
					}
				}
			}
			e = way(e)
		}
		for range 100000 {
			e = way(e)
		}
		if s, err := Expr(e); s != "" || err != api.ErrForm {
			t.Error(cut(s), err)
		}
	}
	// Those that stand beside each other are not within one another.
	e := x
	for range 499 {
		e = neg(e)
	}
	many := list(e.Kids[0], e.Kids[0], e.Kids[0])
	if _, err := Expr(many); err != api.OK {
		t.Error(err)
	}
	refusesExpr(t, op("+", x, op("+", e, x)))
	s := picks("a b", e, e)
	s.From = []api.Source{along(step(e.Kids[0], "a"), "x"), along(step(e.Kids[0], "a"), "y")}
	s.Where, s.Order, s.Desc = []api.Expr{e}, []api.Expr{e, e}, []bool{false, true}
	if _, err := Print(s); err != api.OK {
		t.Error(err)
	}
	s.From[1].Path = step(e, "a")
	refuses(t, s)
	u := api.Stmt{Kind: api.StmtUpdate, Table: "t", As: "t", Sets: []api.Expr{path("t" + rep(".a", 499))}, To: []api.Expr{e}, Where: []api.Expr{e}}
	prints(t, u, "update t as t set t"+rep(".a", 499)+" = "+rep("(- ", 499)+"x"+rep(")", 499)+" where "+rep("(- ", 499)+"x"+rep(")", 499))
	u.Sets[0] = path("t" + rep(".a", 500))
	refuses(t, u)
}

// What Parse makes may be more than 500 deep, and is refused then.
func TestDeepOfParse(t *testing.T) {
	for n, want := range map[int]api.Errno{498: api.OK, 499: api.OK, 500: api.ErrForm, 501: api.ErrForm, 900: api.ErrForm} {
		for _, s := range []string{"select value x" + rep("+1", n) + " from t", "select value x" + rep(".a", n) + " from t", "select value x" + rep(" is null or x", 0) + rep("[0]", n) + " from t", "update t set t" + rep(".a", n) + " = 1", "select * from x" + rep(".a", n) + " as y"} {
			x, at, e := Parse(s)
			if at != 0 || e != api.OK {
				t.Error(cut(s), at, e)
			}
			if p, e := Print(x); e != want || (p == "") != (want != api.OK) {
				t.Error(cut(s), cut(p), e)
			}
			printsAsTheChapter(t, x)
		}
	}
}

// An expression that is within itself has no end.
func TestWithoutEnd(t *testing.T) {
	for _, e := range each() {
		for i := range e.Kids {
			e.Kids[i] = e
			e.Kids[i].Kids = e.Kids
		}
		if len(e.Kids) == 0 {
			continue
		}
		for _, x := range []api.Expr{e, list(e), step(e, "a")} {
			if s, err := Expr(x); s != "" || err != api.ErrForm {
				t.Error(cut(s), err)
			}
			where := from()
			where.Where = []api.Expr{x}
			for _, s := range []api.Stmt{selects(x), where, from(along(x, "x")), {Kind: api.StmtUpdate, Table: "t", As: "t", Sets: []api.Expr{x}, To: []api.Expr{num(1)}}} {
				if p, err := Print(s); p != "" || err != api.ErrForm {
					t.Error(cut(p), err)
				}
			}
		}
	}
	v := api.Value{Kind: api.List, Kids: make([]api.Value, 1)}
	v.Kids[0] = v
	refusesExprOnly(t, lit(v))
	v.Kind = api.Text
	refusesExprOnly(t, lit(v))
}

func refusesExprOnly(t *testing.T, e api.Expr) {
	t.Helper()
	if s, err := Expr(e); s != "" || err != api.ErrForm {
		t.Error(cut(s), err)
	}
}

// eachStmt is a statement of each kind, with and without what it may have.
func eachStmt() []api.Stmt {
	one, x := []api.Expr{num(1)}, name("x")
	full := picks("a b", x, path("x.a"))
	full.From = []api.Source{table("t", "x"), history("t", "y"), meta("t", "z"), along(path("x.a"), "w")}
	full.Where, full.Order, full.Desc, full.Limit = one, []api.Expr{x, x}, []bool{true, false}, 5
	return []api.Stmt{
		from(), selects(x), picks("a", x), full, from(along(at(x, x), "y")),
		{Kind: api.StmtInsert, Table: "t", To: one},
		{Kind: api.StmtUpdate, Table: "t", As: "x", Sets: []api.Expr{path("x.a")}, To: one}, {Kind: api.StmtUpdate, Table: "t", As: "x", Sets: []api.Expr{path("x.a"), path("x.b.c")}, To: []api.Expr{x, x}, Where: one},
		{Kind: api.StmtDelete, Table: "t", As: "x"}, {Kind: api.StmtDelete, Table: "t", As: "x", Where: one},
		{Kind: api.StmtTable, Table: "t"}, {Kind: api.StmtDrop, Table: "t"}, {Kind: api.StmtIndex, Table: "t", Field: "f"},
	}
}

// spoiltStmts are all statements that come of one by putting something into one of its fields.
func spoiltStmts(s api.Stmt) []api.Stmt {
	var out []api.Stmt
	add := func(change func(x *api.Stmt)) {
		x := s
		change(&x)
		if !alike(x, s) {
			out = append(out, x)
		}
	}
	for kind := -1; kind <= 8; kind++ {
		add(func(x *api.Stmt) { x.Kind = kind })
	}
	for _, n := range []string{"", "y", "a b", "select", `"`, rep("n", 41), rep("-", 41)} {
		add(func(x *api.Stmt) { x.Table = n })
		add(func(x *api.Stmt) { x.As = n })
		add(func(x *api.Stmt) { x.Field = n })
	}
	x := name("x")
	for _, l := range [][]api.Source{nil, {table("t", "t")}, {{}}, {table("t", "t"), {}}, {along(x, "y")}, {along(call("f"), "y")}, {along(num(1), "y")}, {along(step(num(1), "a"), "y")}, {{Kind: 5, Text: "t", As: "t"}}, {{Kind: -1, Text: "t", As: "t"}}, {{Kind: api.FromTable, Text: "t", As: "t", Path: path("x.a")}}, {{Kind: api.FromHistory, Text: "t", As: "t", Path: x}}, {{Kind: api.FromMeta, Text: "t", As: "t", Path: api.Expr{Text: "x"}}}, {{Kind: api.FromPath, Text: "t", As: "t", Path: path("x.a")}}, {{Kind: api.FromPath, As: "t"}}, {{Kind: api.FromTable, Text: "t", As: "t", Path: api.Expr{Int: 1}}}, {{Kind: api.FromTable, Text: "t", As: "t", Path: api.Expr{Kids: []api.Expr{x}}}}, {{Kind: api.FromTable, Text: "t", As: "t", Path: api.Expr{Value: api.Value{Kind: 1}}}}, {{Kind: api.FromTable, Text: "t", As: "t", Path: api.Expr{Names: []string{"x"}}}}} {
		add(func(x *api.Stmt) { x.From = l })
	}
	for _, l := range [][]api.Expr{nil, {x}, {{}}, {x, x}, {x, {}}, {x, x, x}, {path("x.a")}, {path("x.a"), path("x.b")}, {path("x.a"), x}, {step(at(x, x), "a")}, {step(call("f"), "a")}, {step(num(1), "a")}, {at(path("x.a"), num(1))}} {
		for _, f := range []func(x *api.Stmt) *[]api.Expr{func(x *api.Stmt) *[]api.Expr { return &x.What }, func(x *api.Stmt) *[]api.Expr { return &x.Sets }, func(x *api.Stmt) *[]api.Expr { return &x.To }, func(x *api.Stmt) *[]api.Expr { return &x.Where }, func(x *api.Stmt) *[]api.Expr { return &x.Order }} {
			add(func(x *api.Stmt) { *f(x) = l })
		}
	}
	for _, l := range [][]string{nil, {"x"}, {""}, {"x", "y"}, {"x", `"`}, {"x", "y", "z"}} {
		add(func(x *api.Stmt) { x.Names = l })
	}
	for _, l := range [][]bool{nil, {true}, {false}, {false, true}, {false, false, false}} {
		add(func(x *api.Stmt) { x.Desc = l })
	}
	for _, n := range []int{-1, 0, 1, -2, math.MinInt, math.MaxInt} {
		add(func(x *api.Stmt) { x.Limit = n })
	}
	return out
}

// Of each statement with something else in one field, or in two.
func TestSpoiltStatements(t *testing.T) {
	taken := 0
	r := rand.New(rand.NewSource(7))
	for _, s := range eachStmt() {
		printsAsTheChapter(t, s)
		if _, e := Print(s); e != api.OK {
			t.Error(short(s), e)
		}
		for _, x := range spoiltStmts(s) {
			printsAsTheChapter(t, x)
			if _, e := Print(x); e == api.OK {
				taken++
			}
			for _, y := range spoiltStmts(x) {
				if r.Intn(4) > 0 {
					continue
				}
				p, e := Print(y)
				if want, wantE := chapterPrint(y); p != want || e != wantE {
					t.Fatalf("Print(%s) = %s, %v, want %s, %v", short(y), cut(p), e, cut(want), wantE)
				}
			}
		}
	}
	if taken < 100 {
		t.Error("few were taken:", taken)
	}
	refuses(t, api.Stmt{})
	refuses(t, api.Stmt{Kind: math.MinInt})
	refuses(t, api.Stmt{Kind: 8, Table: "t"})
	refuses(t, api.Stmt{Limit: -1})
}
