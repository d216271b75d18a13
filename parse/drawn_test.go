package parse

import (
	"fmt"
	"math/rand"
	"slices"
	"strings"
	"testing"

	"scrivener/api"
	"scrivener/lex"
)

// Texts and expressions that are drawn, or all of some kind, against the chapter.

// spelt is a terminal as it may be written.
func spelt(r *rand.Rand, terminal string) string {
	pick := func(s ...string) string { return s[r.Intn(len(s))] }
	switch terminal {
	case "NAME":
		return pick("x", "y", "t", "f", "X", "_1", "x", "y", `"x"`, `"a b"`, `"select"`, `"`+rep("n", 40)+`"`, "nn", `"("`, `"'a'"`, `"1"`, `"?"`)
	case "INT":
		return pick("0", "1", "7", "10", "9223372036854775807")
	case "DEC":
		return pick("0.5", "1.0", "1.50", "0.000000000000000001")
	case "TEXT":
		return pick("'a'", "'b'", "'c'", "''", "'it''s'", `'\0a'`, quoted(rep("n", 40)), quoted(rep("n", 41)), fmt.Sprintf("'%d'", r.Intn(1000)), fmt.Sprintf("'%d'", r.Intn(1000)))
	case "END":
		return ""
	case "!=":
		return pick("!=", "<>")
	}
	if terminal[0] >= 'a' && terminal[0] <= 'z' {
		return pick(terminal, terminal, strings.ToUpper(terminal), strings.ToUpper(terminal[:1])+terminal[1:])
	}
	return terminal
}

// joined is tokens with what may stand between, and is not needed where one ends by itself.
func joined(r *rand.Rand, l []string) string {
	var b strings.Builder
	for i, s := range l {
		if i > 0 {
			b.WriteString([]string{" ", " ", " ", "\n", "\t ", " --x'\n"}[r.Intn(6)])
		}
		b.WriteString(s)
	}
	return b.String()
}

// drawnText is a sentence of the grammar.
func drawnText(r *rand.Rand) []string {
	var out []string
	for _, s := range theGrammar.sentence(r, theGrammar.start, 6+r.Intn(18)) {
		if s := spelt(r, s); s != "" {
			out = append(out, s)
		}
	}
	return out
}

// comesBack fails unless what s is printed as is read as the same.
func comesBack(t *testing.T, s string) bool {
	t.Helper()
	x, _, e := Parse(s)
	if e != api.OK {
		return false
	}
	p, e := Print(x)
	if e != api.OK {
		t.Errorf("Print of %s: %v", cut(s), e)
	}
	y, at, e := Parse(p)
	if e == api.ErrLong && len(p) > api.MaxText || e == api.ErrDeep {
		return false
	}
	if at != 0 || e != api.OK || !alike(x, y) {
		t.Errorf("%s is printed as %s, and that is %s, %d, %v", cut(s), cut(p), short(y), at, e)
	}
	if q, e := Print(y); q != p || e != api.OK {
		t.Errorf("%s is printed as %s, and that as %s, %v", cut(s), cut(p), cut(q), e)
	}
	return true
}

// P18.1, P18.3: sentences of the grammar.
func TestDrawnSentences(t *testing.T) {
	r := rand.New(rand.NewSource(1))
	whole, back := 0, 0
	kinds := map[int]int{}
	for range 4000 {
		s := joined(r, drawnText(r))
		asTheChapter(t, s)
		if x, _, e := Parse(s); e == api.OK {
			whole++
			kinds[x.Kind]++
			printsAsTheChapter(t, x)
		}
		if comesBack(t, s) {
			back++
		}
	}
	if whole < 2000 || back < whole*9/10 || len(kinds) != 7 {
		t.Error("few are whole:", whole, back, kinds)
	}
}

// P18.1: sentences with a token taken away, doubled, changed or brought elsewhere.
func TestSpoiltSentences(t *testing.T) {
	r := rand.New(rand.NewSource(2))
	wrong := 0
	for range 10000 {
		l := drawnText(r)
		for range 1 + r.Intn(2) {
			i := r.Intn(len(l))
			other := spelt(r, theGrammar.names[r.Intn(len(theGrammar.names))])
			switch r.Intn(6) {
			case 0:
				l = slices.Delete(l, i, i+1)
			case 1:
				l = slices.Insert(l, i, l[i])
			case 2:
				l[i] = other
			case 3:
				l = slices.Insert(l, i, other)
			case 4:
				k := r.Intn(len(l))
				l[i], l[k] = l[k], l[i]
			case 5:
				l = l[:i]
			}
			if len(l) == 0 {
				l = []string{"x"}
			}
		}
		s := joined(r, l)
		asTheChapter(t, s)
		comesBack(t, s)
		if _, _, e := Parse(s); e != api.OK {
			wrong++
		}
	}
	if wrong < 5000 {
		t.Error("few are wrong:", wrong)
	}
}

// all hands on each list of n of these.
func all(of []string, n int, yield func(l []string)) {
	if n == 0 {
		yield(nil)
		return
	}
	for _, s := range of {
		all(of, n-1, func(l []string) { yield(append([]string{s}, l...)) })
	}
}

// P18.1: all rows of a few tokens behind some beginnings.
func TestEachFewTokens(t *testing.T) {
	try := func(ahead, of string, n int, behind string) {
		for k := range n + 1 {
			all(strings.Fields(of), k, func(l []string) { asTheChapter(t, ahead+strings.Join(l, " ")+behind) })
		}
	}
	try("", "select insert update delete create drop value table index from into on * x ( ) ;", 3, "")
	try("select ", "x . * , as from value ( ) 1", 4, "")
	try("select value ", "x 1 'a' ( ) [ ] . ,", 4, " from t")
	try("select value ", "x + * - = not and or is null", 4, " from t")
	try("select value x ", "is not null missing = and - ( )", 4, " from t")
	try("select value {", "'a' : , } 1 x 'b'", 5, " from t")
	try("select value f(", "x ) , ( . [ ]", 4, ") from t")
	try("select * from ", "x ( ) . [ as history meta , ]", 4, "")
	try("select * from t ", "where order by limit x desc , 1 ;", 4, "")
	try("update t ", "set t . = 1 , as where", 5, "")
	try("update t set t.a = 1 ", "where , t . = x ;", 5, "")
	try("delete ", "from t as x where ; ( )", 4, "")
	try("insert into t ", "value x , ; ( ) as", 4, "")
	try("create ", "table index on t ( ) . ;", 5, "")
	try("select (", "x ) . [ ] , as ( y", 4, " from t")
	try("select * from (", "x ) . [ ] , as ( or", 4, " as y")
}

// Texts of tokens of all kinds in no order, and of any bytes.
func TestDrawnTokens(t *testing.T) {
	r := rand.New(rand.NewSource(3))
	starts := []string{"", "select ", "select value ", "select * from t ", "select * from ", "update t set ", "delete from t where ", "insert into t value ", "create "}
	for i := range 15000 {
		var l []string
		for range r.Intn(8) {
			l = append(l, spelt(r, theGrammar.names[r.Intn(len(theGrammar.names))]))
		}
		asTheChapter(t, starts[r.Intn(len(starts))]+joined(r, l))
		b := make([]byte, r.Intn(16))
		for k := range b {
			b[k] = byte(r.Intn(256))
			if i%2 == 0 {
				b[k] = byte(32 + r.Intn(96))
			}
		}
		asTheChapter(t, starts[r.Intn(len(starts))]+string(b))
	}
}

// Long ones, up to MaxText bytes, with many members and much within one another.
func TestDrawnLong(t *testing.T) {
	r := rand.New(rand.NewSource(4))
	told := map[api.Errno]int{}
	for range 150 {
		var b strings.Builder
		b.WriteString("select value ")
		open := ""
		closing := r.Intn(3)
		size := 300 + r.Intn(1500)
		for b.Len() < size {
			switch r.Intn(7) {
			case 0:
				b.WriteString("[")
				open = "]" + open
			case 1:
				b.WriteString("(")
				open = ")" + open
			case 2:
				b.WriteString("- ")
			case 3:
				b.WriteString("f(")
				open = ")" + open
			case 4, 5, 6:
				b.WriteString("x")
				for open != "" && r.Intn(3) < closing {
					b.WriteString(open[:1])
					open = open[1:]
				}
				if strings.HasPrefix(open, "]") && r.Intn(3) < closing {
					b.WriteString(rep(", x", r.Intn(230)) + ",")
				} else {
					b.WriteString([]string{"+", " and ", " or ", " = 1 and ", "*", "-", " is null or not "}[r.Intn(7)])
				}
			}
		}
		s := b.String() + "x" + open + " from t"
		_, _, e := Parse(s)
		told[e]++
		asTheChapter(t, s)
		asTheChapter(t, s[:len(s)-r.Intn(60)])
	}
	for _, e := range []api.Errno{api.OK, api.ErrSyntax, api.ErrDeep, api.ErrLong} {
		if told[e] < 2 {
			t.Error("few of one kind:", told)
		}
	}
}

// drawnExpr is an expression about so deep, with parameters that come next.
func drawnExpr(r *rand.Rand, deep int, params *int) api.Expr {
	pick := func(s ...string) string { return s[r.Intn(len(s))] }
	kid := func() api.Expr { return drawnExpr(r, deep-1, params) }
	kids := func() []api.Expr {
		var l []api.Expr
		for range r.Intn(4) {
			l = append(l, kid())
		}
		return l
	}
	kind := 1 + r.Intn(12)
	if deep < 1 {
		kind = 1 + r.Intn(3)
	}
	aName := pick("x", "y", "X_1", "a b", "select", "é", "(", rep("n", 50))
	switch kind {
	case api.ExprValue:
		return []api.Expr{num(r.Intn(100)), dec(1+2*r.Intn(4), 1+r.Intn(18)), str(pick("", "a", "it's", "\n")), null(), truth(r.Intn(2))}[r.Intn(5)]
	case api.ExprParam:
		*params++
		return param(*params - 1)
	case api.ExprField:
		return step(kid(), aName)
	case api.ExprAt:
		e := kid()
		return at(e, kid())
	case api.ExprOp:
		e := kid()
		return op(pick("or", "and", "=", "!=", "<", "<=", ">", ">=", "+", "-", "||", "*"), e, kid())
	case api.ExprNot:
		return not(kid())
	case api.ExprNeg:
		return neg(kid())
	case api.ExprIs:
		return is(kid(), pick("null", "missing"))
	case api.ExprList:
		return list(kids()...)
	case api.ExprStruct:
		e := api.Expr{Kind: kind, Kids: kids()}
		for i := range e.Kids {
			e.Names = append(e.Names, fmt.Sprint(pick("a", "it's", "\n"), i))
		}
		return e
	case api.ExprCall:
		return call(aName, kids()...)
	}
	return name(aName)
}

// drawnStmt is a statement that Parse makes of some text.
func drawnStmt(r *rand.Rand) api.Stmt {
	params := 0
	expr := func() api.Expr { return drawnExpr(r, r.Intn(4), &params) }
	s := api.Stmt{Kind: 1 + r.Intn(7)}
	if s.Kind != api.StmtSelect {
		s.Table = []string{"t", "T", "a b"}[r.Intn(3)]
	}
	switch s.Kind {
	case api.StmtSelect:
		s = from()
		for range r.Intn(4) {
			s.What = append(s.What, expr())
			s.Names = append(s.Names, fmt.Sprint("n", r.Intn(3)))
		}
		if len(s.What) == 1 && r.Intn(2) == 0 {
			s.Names = nil
		}
		for range r.Intn(4) {
			s.From = append(s.From, []api.Source{table("t", "u"), history("t", "a b"), meta("t", "v"), along(step(expr(), "a"), "w")}[r.Intn(4)])
		}
		// Those of sources that were not taken are none.
		params = 0
		for i := range s.What {
			s.What[i] = counted(s.What[i], &params)
		}
		for i := range s.From {
			s.From[i].Path = counted(s.From[i].Path, &params)
		}
	case api.StmtInsert:
		s.To = []api.Expr{expr()}
	case api.StmtUpdate:
		for range 1 + r.Intn(3) {
			s.Sets = append(s.Sets, path("t"+rep(".a", 1+r.Intn(3))))
			s.To = append(s.To, expr())
		}
		s.As = "x"
	case api.StmtDelete:
		s.As = "x"
	case api.StmtIndex:
		s.Field = "f"
	}
	if (s.Kind == api.StmtSelect || s.As != "") && r.Intn(2) == 0 {
		s.Where = []api.Expr{expr()}
	}
	if s.Kind == api.StmtSelect && r.Intn(2) == 0 {
		for range r.Intn(3) {
			s.Order = append(s.Order, expr())
			s.Desc = append(s.Desc, r.Intn(2) == 0)
		}
		s.Limit = r.Intn(4) - 1
	}
	return s
}

// counted is an expression with parameters that come next.
func counted(e api.Expr, params *int) api.Expr {
	if e.Kind == api.ExprParam {
		e.Int = *params
		*params++
	}
	e.Kids = slices.Clone(e.Kids)
	for i := range e.Kids {
		e.Kids[i] = counted(e.Kids[i], params)
	}
	return e
}

// P18.2, P18.3: what was drawn is printed, and read as the same.
func TestDrawnStatements(t *testing.T) {
	r := rand.New(rand.NewSource(5))
	for range 5000 {
		s := drawnStmt(r)
		printsAsTheChapter(t, s)
		p, e := Print(s)
		if e != api.OK {
			t.Fatal(short(s), e)
		}
		x, at, e := Parse(p)
		if e == api.ErrLong && len(p) > api.MaxText {
			continue
		}
		if at != 0 || e != api.OK || !alike(x, s) {
			t.Fatal(cut(p), short(x), short(s), at, e)
		}
		// Its tokens are those of the text with small words; blanks are those that are asked for.
		l, _, _ := lex.Lex(p)
		k, _, _ := lex.Lex(strings.ReplaceAll(p, " ", "  "))
		if strings.Contains(p, "  ") || strings.HasSuffix(p, " ") || !slices.EqualFunc(l, k, func(a, b api.Token) bool {
			return a.Kind == b.Kind && a.Text == b.Text || strings.Contains(a.Text, " ")
		}) {
			t.Fatal(cut(p))
		}
	}
}

// at random one of the expressions within e is changed.
func spoiltWithin(r *rand.Rand, e api.Expr) api.Expr {
	if len(e.Kids) > 0 && r.Intn(3) > 0 {
		e.Kids = slices.Clone(e.Kids)
		i := r.Intn(len(e.Kids))
		e.Kids[i] = spoiltWithin(r, e.Kids[i])
		return e
	}
	l := spoilt(e)
	return l[r.Intn(len(l))]
}

// P18.2: one thing that is wrong, wherever it is.
func TestDrawnFaults(t *testing.T) {
	r := rand.New(rand.NewSource(6))
	refused := 0
	for range 7000 {
		params := 0
		e := drawnExpr(r, r.Intn(6), &params)
		exprAsTheChapter(t, e)
		x := spoiltWithin(r, e)
		exprAsTheChapter(t, x)
		if _, err := Expr(x); err != api.OK {
			refused++
		}
		s := drawnStmt(r)
		for _, l := range [][]api.Expr{s.What, s.Where, s.Order, s.To, s.Sets} {
			if len(l) > 0 && r.Intn(2) == 0 {
				l[0] = spoiltWithin(r, l[0])
			}
		}
		printsAsTheChapter(t, s)
	}
	if refused < 2500 {
		t.Error("few were refused:", refused)
	}
}
