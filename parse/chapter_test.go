package parse

import (
	"fmt"
	"math/big"
	"regexp"
	"slices"
	"strconv"
	"strings"

	"scrivener/api"
	"scrivener/decimal"
	"scrivener/lex"
	"scrivener/text"
	"scrivener/value"
)

// The chapter a second time: what the tests hold the answers against. Which token cannot stand where it stands is
// asked of the grammar as data; how much is within one another, and how many members there are, is counted token by
// token; statements are made by cutting the tokens at what binds least.

// frame is what stands between two brackets, or a clause.
type frame struct {
	open       string
	nots, negs int
	members    int
	names      []string
	behind     bool // the : of a struct's member
}

// counter goes over tokens that can stand where they stand.
type counter struct {
	frames []frame
	clause string
	inExpr bool
	before api.Token
}

func isSign(t api.Token, s ...string) bool {
	return t.Kind == api.TokSign && slices.Contains(s, t.Text)
}
func isWord(t api.Token, s ...string) bool {
	return t.Kind == api.TokWord && slices.Contains(s, t.Text)
}

// endsOperand tells whether a - behind it stands between two.
func endsOperand(t api.Token) bool {
	switch t.Kind {
	case api.TokName, api.TokInt, api.TokDec, api.TokText, api.TokParam:
		return true
	}
	return isSign(t, ")", "]", "}") || isWord(t, "null", "true", "false")
}

// nest is how many are within one another here.
func (c *counter) nest() int {
	n := 0
	for i, f := range c.frames {
		n += f.nots + f.negs
		switch {
		case i == 0 && c.inExpr, i > 0 && f.open != "{", i > 0 && f.behind:
			n++
		}
	}
	return n
}

func (c *counter) top() *frame { return &c.frames[len(c.frames)-1] }

// wrong is what is wrong with a token that the grammar lets stand.
func (c *counter) wrong(t api.Token, limited bool) api.Errno {
	if isSign(t, ")", "]", "}") {
		c.frames = c.frames[:len(c.frames)-1]
		return api.OK
	}
	f := c.top()
	if t.Kind == api.TokText && f.open == "{" && !f.behind {
		v, _ := text.Parse(t.Text)
		if n := len(v.Text); n < 1 || n > 40 || slices.Contains(f.names, v.Text) {
			return api.ErrSyntax
		}
		f.names = append(f.names, v.Text)
	}
	if limited && c.nest() > 40 {
		return api.ErrDeep
	}
	if isSign(c.before, ",") && f.members > 200 {
		return api.ErrLong
	}
	return api.OK
}

// step goes over a token.
func (c *counter) step(t api.Token) {
	f := c.top()
	switch {
	case isSign(t, "(", "[", "{"):
		c.frames = append(c.frames, frame{open: t.Text, members: 1})
	case isSign(t, ","):
		*f = frame{open: f.open, members: f.members + 1, names: f.names}
		if len(c.frames) == 1 && c.clause == "set" {
			c.inExpr = false
		}
	case isSign(t, ":"):
		f.behind = true
	case isWord(t, "or", "and"):
		f.nots, f.negs = 0, 0
	case isWord(t, "not") && !isWord(c.before, "is"):
		f.nots++
	case isSign(t, "-") && !endsOperand(c.before):
		f.negs++
	case isSign(t, "+", "-", "||", "*", "=", "!=", "<", "<=", ">", ">="), isWord(t, "is"):
		f.negs = 0
		if isSign(t, "=") && len(c.frames) == 1 {
			c.inExpr = true
		}
	case isWord(t, "select", "value", "from", "where", "by", "set", "limit"):
		*f = frame{members: 1}
		c.clause = t.Text
		c.inExpr = isWord(t, "select", "value", "where", "by")
	}
	c.before = t
}

// chapterFault is the first thing that is wrong: the token's place among the tokens.
func chapterFault(l []api.Token, limited bool) (int, api.Errno) {
	bad := theGrammar.firstBad(l)
	c := counter{frames: []frame{{members: 1}}}
	for i, t := range l {
		if i == bad {
			return i, api.ErrSyntax
		}
		if e := c.wrong(t, limited); e != api.OK {
			return i, e
		}
		c.step(t)
	}
	return 0, api.OK
}

// maker makes expressions of tokens that are right.
type maker struct{ params map[int]int } // by places

func newMaker(l []api.Token) maker {
	m := maker{map[int]int{}}
	for _, t := range l {
		if t.Kind == api.TokParam {
			m.params[t.At] = len(m.params)
		}
	}
	return m
}

// tops are the places outside of brackets at which something stands.
func tops(l []api.Token, is func(i int) bool) []int {
	var out []int
	deep := 0
	for i, t := range l {
		if isSign(t, ")", "]", "}") {
			deep--
		}
		if deep == 0 && is(i) {
			out = append(out, i)
		}
		if isSign(t, "(", "[", "{") {
			deep++
		}
	}
	return out
}

func wordTops(l []api.Token, words ...string) []int {
	return tops(l, func(i int) bool { return isWord(l[i], words...) })
}

func signTops(l []api.Token, signs ...string) []int {
	return tops(l, func(i int) bool {
		return isSign(l[i], signs...) && (l[i].Text != "-" || i > 0 && endsOperand(l[i-1]))
	})
}

// cutAt is what stands between these places.
func cutAt(l []api.Token, at []int) [][]api.Token {
	var out [][]api.Token
	from := 0
	for _, i := range at {
		out = append(out, l[from:i])
		from = i + 1
	}
	return append(out, l[from:])
}

// members are what stands between commas; none of no tokens.
func members(l []api.Token) [][]api.Token {
	if len(l) == 0 {
		return nil
	}
	return cutAt(l, signTops(l, ","))
}

func (m maker) exprs(l []api.Token) []api.Expr {
	var out []api.Expr
	for _, x := range members(l) {
		out = append(out, m.expr(x))
	}
	return out
}

// binary cuts at the last of these places.
func (m maker) binary(l []api.Token, at []int) api.Expr {
	i := at[len(at)-1]
	return api.Expr{Kind: api.ExprOp, Text: l[i].Text, Kids: []api.Expr{m.expr(l[:i]), m.expr(l[i+1:])}}
}

func (m maker) expr(l []api.Token) api.Expr {
	for _, w := range []string{"or", "and"} {
		if at := wordTops(l, w); len(at) > 0 {
			return m.binary(l, at)
		}
	}
	if isWord(l[0], "not") {
		return api.Expr{Kind: api.ExprNot, Kids: []api.Expr{m.expr(l[1:])}}
	}
	if at := wordTops(l, "is"); len(at) > 0 {
		is := api.Expr{Kind: api.ExprIs, Text: l[len(l)-1].Text, Kids: []api.Expr{m.expr(l[:at[0]])}}
		if len(l)-at[0] == 3 {
			return api.Expr{Kind: api.ExprNot, Kids: []api.Expr{is}}
		}
		return is
	}
	for _, signs := range [][]string{{"=", "!=", "<", "<=", ">", ">="}, {"+", "-", "||"}, {"*"}} {
		if at := signTops(l, signs...); len(at) > 0 {
			return m.binary(l, at)
		}
	}
	if isSign(l[0], "-") {
		return api.Expr{Kind: api.ExprNeg, Kids: []api.Expr{m.expr(l[1:])}}
	}
	return m.path(l)
}

func (m maker) path(l []api.Token) api.Expr {
	n := len(l)
	if n > 2 && isSign(l[n-2], ".") {
		return api.Expr{Kind: api.ExprField, Text: l[n-1].Text, Kids: []api.Expr{m.path(l[:n-2])}}
	}
	if at := signTops(l, "["); len(at) > 0 && at[len(at)-1] > 0 && isSign(l[n-1], "]") {
		i := at[len(at)-1]
		return api.Expr{Kind: api.ExprAt, Kids: []api.Expr{m.path(l[:i]), m.expr(l[i+1 : n-1])}}
	}
	if n == 1 {
		return m.one(l[0])
	}
	in := l[1 : n-1]
	switch {
	case l[0].Kind == api.TokName:
		return api.Expr{Kind: api.ExprCall, Text: l[0].Text, Kids: m.exprs(in[1:])}
	case l[0].Text == "[":
		return api.Expr{Kind: api.ExprList, Kids: m.exprs(in)}
	case l[0].Text == "{":
		e := api.Expr{Kind: api.ExprStruct}
		for _, x := range members(in) {
			v, _ := text.Parse(x[0].Text)
			e.Names = append(e.Names, v.Text)
			e.Kids = append(e.Kids, m.expr(x[2:]))
		}
		return e
	}
	return m.expr(in)
}

func (m maker) one(t api.Token) api.Expr {
	var v api.Value
	switch t.Kind {
	case api.TokName:
		return api.Expr{Kind: api.ExprName, Text: t.Text}
	case api.TokParam:
		return api.Expr{Kind: api.ExprParam, Int: m.params[t.At]}
	case api.TokInt, api.TokDec:
		v, _ = decimal.Parse(t.Text)
	case api.TokText:
		v, _ = text.Parse(t.Text)
	case api.TokWord:
		v = map[string]api.Value{"null": {Kind: api.Null}, "true": {Kind: api.Bool, Int: 1}, "false": {Kind: api.Bool}}[t.Text]
	}
	return api.Expr{Kind: api.ExprValue, Value: v}
}

// named takes the `as` and the name behind it off, if they are there; else the name is of the last token.
func named(l []api.Token) ([]api.Token, string) {
	if n := len(l); n > 2 && isWord(l[n-2], "as") {
		return l[:n-2], l[n-1].Text
	}
	for i := len(l) - 1; ; i-- {
		if l[i].Kind == api.TokName {
			return l, l[i].Text
		}
	}
}

func (m maker) source(l []api.Token) api.Source {
	l, as := named(l)
	switch {
	case isWord(l[0], "history"):
		return api.Source{Kind: api.FromHistory, Text: l[2].Text, As: as}
	case isWord(l[0], "meta"):
		return api.Source{Kind: api.FromMeta, Text: l[2].Text, As: as}
	case len(l) == 1:
		return api.Source{Kind: api.FromTable, Text: l[0].Text, As: as}
	}
	return api.Source{Kind: api.FromPath, Path: m.path(l), As: as}
}

// stmt makes the statement of tokens without an end.
func (m maker) stmt(l []api.Token) api.Stmt {
	// The clauses behind the first word, each with its own word.
	part := map[string][]api.Token{}
	at := wordTops(l, "select", "insert", "update", "delete", "create", "drop", "value", "from", "where", "order", "limit", "set")
	for i, from := range at {
		to := len(l)
		if i+1 < len(at) {
			to = at[i+1]
		}
		part[l[from].Text] = l[from+1 : to]
	}
	s := api.Stmt{}
	if l := part["where"]; l != nil {
		s.Where = []api.Expr{m.expr(l)}
	}
	switch l[0].Text {
	case "select":
		s.Kind = api.StmtSelect
		m.selection(&s, part)
	case "insert":
		s.Kind, s.Table, s.To = api.StmtInsert, l[2].Text, []api.Expr{m.expr(part["value"])}
	case "update":
		s.Kind, s.Table = api.StmtUpdate, l[1].Text
		_, s.As = named(part["update"])
		for _, x := range members(part["set"]) {
			i := signTops(x, "=")[0]
			s.Sets = append(s.Sets, m.path(x[:i]))
			s.To = append(s.To, m.expr(x[i+1:]))
		}
	case "delete":
		s.Kind, s.Table = api.StmtDelete, l[2].Text
		_, s.As = named(part["from"])
	case "drop":
		s.Kind, s.Table = api.StmtDrop, l[2].Text
	case "create":
		s.Kind, s.Table = api.StmtTable, l[2].Text
		if len(l) > 3 {
			s.Kind, s.Table, s.Field = api.StmtIndex, l[3].Text, l[5].Text
		}
	}
	return s
}

func (m maker) selection(s *api.Stmt, part map[string][]api.Token) {
	if l := part["value"]; l != nil {
		s.What = []api.Expr{m.expr(l)}
	} else if l := part["select"]; len(l) > 1 || !isSign(l[0], "*") {
		for _, x := range members(l) {
			of, name := named(x)
			s.What = append(s.What, m.expr(of))
			s.Names = append(s.Names, name)
		}
	}
	for _, x := range members(part["from"]) {
		s.From = append(s.From, m.source(x))
	}
	if l := part["order"]; l != nil {
		for _, x := range members(l[1:]) {
			desc := isWord(x[len(x)-1], "desc")
			if desc {
				x = x[:len(x)-1]
			}
			s.Order = append(s.Order, m.expr(x))
			s.Desc = append(s.Desc, desc)
		}
	}
	s.Limit = -1
	if l := part["limit"]; l != nil {
		s.Limit, _ = strconv.Atoi(l[0].Text)
	}
}

func chapterParse(s string) (api.Stmt, int, api.Errno) {
	l, at, e := lex.Lex(s)
	if e != api.OK {
		return api.Stmt{}, at, e
	}
	if i, e := chapterFault(l, true); e != api.OK {
		return api.Stmt{}, l[i].At, e
	}
	return made(l), 0, api.OK
}

// made is the statement of tokens that are right.
func made(l []api.Token) api.Stmt {
	m := newMaker(l)
	l = l[:len(l)-1]
	if isSign(l[len(l)-1], ";") {
		l = l[:len(l)-1]
	}
	return m.stmt(l)
}

// Print a second time: a statement becomes pieces, whatever it is, and blanks come between them. It is right, if the
// pieces are tokens that make just that statement.

// piece is a token as it is written. Stuck is what has no blank ahead whatever it is.
type piece struct {
	token api.Token
	s     string
	stuck bool
}

// pieces are what was written, as long as it could be.
type pieces struct {
	l   []piece
	bad bool
}

func (p *pieces) word(s ...string) {
	for _, s := range s {
		p.l = append(p.l, piece{api.Token{Kind: api.TokWord, Text: s}, s, false})
	}
}

func (p *pieces) sign(s ...string) {
	for _, s := range s {
		p.l = append(p.l, piece{api.Token{Kind: api.TokSign, Text: s}, s, false})
	}
}

func (p *pieces) stuck(s string) {
	p.l = append(p.l, piece{api.Token{Kind: api.TokSign, Text: s}, s, true})
}

var plainName = regexp.MustCompile(`^[A-Za-z_][A-Za-z_0-9]*$`)

const allWords = " select value from as where order by desc limit insert into update set delete create drop table index on and or not is null missing true false history meta "

func (p *pieces) name(s ...string) {
	for _, s := range s {
		written := s
		if !plainName.MatchString(s) || strings.Contains(allWords, " "+strings.ToLower(s)+" ") {
			written = `"` + s + `"`
		}
		p.l = append(p.l, piece{api.Token{Kind: api.TokName, Text: s}, written, false})
	}
}

// quoted is a text as chapter 9 has it.
func quoted(s string) string {
	var b strings.Builder
	for _, x := range []byte(s) {
		switch {
		case x == '\'':
			b.WriteString("''")
		case x < 0x20 || x > 0x7e || x == '\\':
			fmt.Fprintf(&b, `\%02x`, x)
		default:
			b.WriteByte(x)
		}
	}
	return "'" + b.String() + "'"
}

func (p *pieces) literal(v api.Value) {
	kind, s := 0, ""
	switch v.Kind {
	case api.Null:
		kind, s = api.TokWord, "null"
	case api.Bool:
		kind, s = api.TokWord, map[int]string{0: "false", 1: "true"}[v.Int]
	case api.Int:
		kind, s = api.TokInt, strconv.Itoa(v.Int)
	case api.Decimal:
		kind, s = api.TokDec, ""
		if v.Scale >= 1 && v.Scale <= 18 {
			power := new(big.Int).Exp(big.NewInt(10), big.NewInt(int64(v.Scale)), nil)
			s = new(big.Rat).SetFrac(big.NewInt(int64(v.Int)), power).FloatString(v.Scale)
		}
	case api.Text:
		kind, s = api.TokText, quoted(v.Text)
	}
	// What the value has beside is nowhere in the pieces, so that it will not come back.
	if s == "" || s[0] == '-' || value.Check(v) != api.OK {
		p.bad = true
	}
	p.l = append(p.l, piece{api.Token{Kind: kind, Text: s}, s, false})
}

// kids tells whether there are as many as need be.
func (p *pieces) kids(e api.Expr, n int) bool {
	if len(e.Kids) != n {
		p.bad = true
	}
	return len(e.Kids) == n
}

func (p *pieces) list(n int, member func(i int)) {
	for i := range n {
		if i > 0 {
			p.sign(",")
		}
		member(i)
	}
}

func (p *pieces) expr(e api.Expr) {
	one := func(put func(kid api.Expr)) {
		if p.kids(e, 1) {
			put(e.Kids[0])
		}
	}
	switch e.Kind {
	case api.ExprValue:
		p.literal(e.Value)
	case api.ExprParam:
		p.l = append(p.l, piece{api.Token{Kind: api.TokParam, Text: "?", At: e.Int}, "?", false})
	case api.ExprName:
		p.name(e.Text)
	case api.ExprField:
		one(func(kid api.Expr) {
			if kid.Kind == api.ExprValue && (kid.Value.Kind == api.Int || kid.Value.Kind == api.Decimal) {
				p.sign("(")
				p.expr(kid)
				p.sign(")")
			} else {
				p.expr(kid)
			}
			p.sign(".")
			p.name(e.Text)
		})
	case api.ExprAt:
		if p.kids(e, 2) {
			p.expr(e.Kids[0])
			p.stuck("[")
			p.expr(e.Kids[1])
			p.sign("]")
		}
	case api.ExprOp:
		if p.kids(e, 2) {
			p.sign("(")
			p.expr(e.Kids[0])
			if e.Text == "or" || e.Text == "and" {
				p.word(e.Text)
			} else {
				p.sign(e.Text)
			}
			p.expr(e.Kids[1])
			p.sign(")")
		}
	case api.ExprNot:
		one(func(kid api.Expr) {
			p.sign("(")
			p.word("not")
			p.expr(kid)
			p.sign(")")
		})
	case api.ExprNeg:
		one(func(kid api.Expr) {
			p.sign("(", "-")
			p.expr(kid)
			p.sign(")")
		})
	case api.ExprIs:
		one(func(kid api.Expr) {
			p.sign("(")
			p.expr(kid)
			p.word("is", e.Text)
			p.sign(")")
		})
	default:
		p.many(e)
	}
}

// many is an expression of any number of Kids.
func (p *pieces) many(e api.Expr) {
	switch e.Kind {
	case api.ExprList:
		p.sign("[")
		p.list(len(e.Kids), func(i int) { p.expr(e.Kids[i]) })
		p.sign("]")
	case api.ExprStruct:
		if len(e.Names) != len(e.Kids) {
			p.bad = true
			return
		}
		p.sign("{")
		p.list(len(e.Kids), func(i int) {
			p.literal(api.Value{Kind: api.Text, Text: e.Names[i]})
			p.sign(":")
			p.expr(e.Kids[i])
		})
		p.sign("}")
	case api.ExprCall:
		p.name(e.Text)
		p.stuck("(")
		p.list(len(e.Kids), func(i int) { p.expr(e.Kids[i]) })
		p.sign(")")
	default:
		p.bad = true
	}
}

func (p *pieces) source(s api.Source) {
	switch s.Kind {
	case api.FromTable:
		p.name(s.Text)
	case api.FromHistory, api.FromMeta:
		p.word(map[int]string{api.FromHistory: "history", api.FromMeta: "meta"}[s.Kind])
		p.sign("(")
		p.name(s.Text)
		p.sign(")")
	case api.FromPath:
		p.expr(s.Path)
	default:
		p.bad = true
	}
	p.word("as")
	p.name(s.As)
}

func (p *pieces) stmt(s api.Stmt) {
	switch s.Kind {
	case api.StmtSelect:
		p.word("select")
		p.selection(s)
	case api.StmtInsert:
		p.word("insert", "into")
		p.name(s.Table)
		p.word("value")
		p.list(len(s.To), func(i int) { p.expr(s.To[i]) })
	case api.StmtUpdate:
		p.word("update")
		p.name(s.Table)
		p.word("as")
		p.name(s.As)
		p.word("set")
		p.bad = p.bad || len(s.Sets) != len(s.To)
		p.list(min(len(s.Sets), len(s.To)), func(i int) {
			p.expr(s.Sets[i])
			p.sign("=")
			p.expr(s.To[i])
		})
		p.where(s)
	case api.StmtDelete:
		p.word("delete", "from")
		p.name(s.Table)
		p.word("as")
		p.name(s.As)
		p.where(s)
	case api.StmtTable:
		p.word("create", "table")
		p.name(s.Table)
	case api.StmtDrop:
		p.word("drop", "table")
		p.name(s.Table)
	case api.StmtIndex:
		p.word("create", "index", "on")
		p.name(s.Table)
		p.sign("(")
		p.name(s.Field)
		p.sign(")")
	default:
		p.bad = true
	}
}

func (p *pieces) where(s api.Stmt) {
	if len(s.Where) > 0 {
		p.word("where")
		p.expr(s.Where[0])
	}
}

func (p *pieces) selection(s api.Stmt) {
	switch {
	case len(s.What) == 0:
		p.sign("*")
	case len(s.Names) == 0:
		p.word("value")
		p.expr(s.What[0])
	default:
		p.bad = p.bad || len(s.Names) != len(s.What)
		p.list(min(len(s.Names), len(s.What)), func(i int) {
			p.expr(s.What[i])
			p.word("as")
			p.name(s.Names[i])
		})
	}
	p.word("from")
	p.list(len(s.From), func(i int) { p.source(s.From[i]) })
	p.where(s)
	if len(s.Order) > 0 {
		p.word("order", "by")
		p.bad = p.bad || len(s.Order) != len(s.Desc)
		p.list(min(len(s.Order), len(s.Desc)), func(i int) {
			p.expr(s.Order[i])
			if s.Desc[i] {
				p.word("desc")
			}
		})
	}
	if s.Limit >= 0 {
		p.word("limit")
		p.l = append(p.l, piece{api.Token{Kind: api.TokInt, Text: strconv.Itoa(s.Limit)}, strconv.Itoa(s.Limit), false})
	}
}

// written is the pieces with blanks.
func (p *pieces) written() string {
	var b strings.Builder
	for i, x := range p.l {
		if i > 0 && !x.stuck && !isSign(x.token, ",", ")", "]", ";", ".", "}", ":") && !isSign(p.l[i-1].token, "(", "[", ".", "{") {
			b.WriteString(" ")
		}
		b.WriteString(x.s)
	}
	return b.String()
}

// tokens are those of the pieces, if they are such as Lex tells; the places of parameters are as they came in.
func (p *pieces) tokens() ([]api.Token, bool) {
	var out []api.Token
	for i, x := range p.l {
		if len(x.s) <= api.MaxText {
			l, _, e := lex.Lex(x.s)
			if e != api.OK || len(l) != 2 || l[0].Kind != x.token.Kind || l[0].Text != x.token.Text {
				return nil, false
			}
		} else if x.token.Kind != api.TokText && !plainName.MatchString(x.s) {
			return nil, false
		}
		x.token.At = i
		out = append(out, x.token)
	}
	return append(out, api.Token{Kind: api.TokEnd, At: len(p.l)}), !p.bad
}

// deeper tells whether an expression is more than so deep.
func deeper(e api.Expr, n int) bool {
	return n == 0 || slices.ContainsFunc(e.Kids, func(kid api.Expr) bool { return deeper(kid, n-1) })
}

func chapterPrint(s api.Stmt) (string, api.Errno) {
	all := slices.Concat(s.What, s.Sets, s.To, s.Where, s.Order)
	for _, f := range s.From {
		all = append(all, f.Path)
	}
	for _, e := range all {
		if deeper(e, 500) {
			return "", api.ErrForm
		}
	}
	p := &pieces{}
	p.stmt(s)
	l, is := p.tokens()
	if !is {
		return "", api.ErrForm
	}
	if _, e := chapterFault(l, false); e != api.OK || !alike(made(l), s) {
		return "", api.ErrForm
	}
	return p.written(), api.OK
}

func chapterExpr(e api.Expr) (string, api.Errno) {
	if deeper(e, 500) {
		return "", api.ErrForm
	}
	p := &pieces{}
	p.expr(e)
	// Its parameters may begin with any.
	first := 0
	for _, x := range p.l {
		if x.token.Kind == api.TokParam {
			first = x.token.At
			break
		}
	}
	written := p.written()
	whole := &pieces{bad: p.bad}
	whole.word("select", "value")
	whole.l = append(whole.l, p.l...)
	whole.word("from")
	whole.name("t")
	l, is := whole.tokens()
	if !is || first < 0 {
		return "", api.ErrForm
	}
	if _, e := chapterFault(l, false); e != api.OK {
		return "", api.ErrForm
	}
	if s := made(l); len(s.What) != 1 || !alikeExpr(s.What[0], moved(e, first)) {
		return "", api.ErrForm
	}
	return written, api.OK
}

// moved is an expression whose parameters begin with others, such as no wrap makes.
func moved(e api.Expr, first int) api.Expr {
	if e.Kind == api.ExprParam && e.Int >= first {
		e.Int -= first
	} else if e.Kind == api.ExprParam {
		e.Int = -1
	}
	e.Kids = slices.Clone(e.Kids)
	for i := range e.Kids {
		e.Kids[i] = moved(e.Kids[i], first)
	}
	return e
}

// alike tells whether two statements are; a nil list is like an empty one.
func alike(a, b api.Stmt) bool {
	sameSource := func(a, b api.Source) bool {
		return a.Kind == b.Kind && a.Text == b.Text && a.As == b.As && alikeExpr(a.Path, b.Path)
	}
	same := func(a, b []api.Expr) bool { return slices.EqualFunc(a, b, alikeExpr) }
	return a.Kind == b.Kind && a.Table == b.Table && a.As == b.As && slices.EqualFunc(a.From, b.From, sameSource) &&
		same(a.What, b.What) && slices.Equal(a.Names, b.Names) && same(a.Sets, b.Sets) && same(a.To, b.To) && same(a.Where, b.Where) &&
		same(a.Order, b.Order) && slices.Equal(a.Desc, b.Desc) && a.Limit == b.Limit && a.Field == b.Field
}

func alikeExpr(a, b api.Expr) bool {
	return a.Kind == b.Kind && a.Int == b.Int && a.Text == b.Text && alikeValue(a.Value, b.Value) && slices.Equal(a.Names, b.Names) && slices.EqualFunc(a.Kids, b.Kids, alikeExpr)
}

func alikeValue(a, b api.Value) bool {
	return a.Kind == b.Kind && a.Int == b.Int && a.Scale == b.Scale && a.Text == b.Text && slices.Equal(a.Names, b.Names) && slices.EqualFunc(a.Kids, b.Kids, alikeValue)
}
