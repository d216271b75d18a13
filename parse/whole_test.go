package parse

import (
	"fmt"
	"math/rand"
	"reflect"
	"slices"
	"strings"
	"sync"
	"testing"
	"unsafe"

	"scrivener/api"
)

// What holds everywhere: W1 to W9, P0.7 and P0.8.

// ordinary are texts of each kind.
func ordinary() []string {
	return []string{
		"", "x", "select", "select * from t", "select value 1 from t", "select x, x.a, (y), x.a as b from t, t as x, history(t) as y, meta(t) as z, x.a[?] as w where not x.a = ? or x is not missing order by x.a desc, ? + 1 limit 5;",
		"insert into t value {'b': ?, 'a': [1, 1.50, 'it''s', null, true, []], 'c': {}, 'd': f(g(), -x) || y}", "update t set t.a.b = 1, t.b = ? where t.c", "update t as x set x.a = x.b * 2", "delete from t", "delete from t as x where x.a <> 1 and x.b < 2", "create table t", "drop table \"order\"", "create index on t(f)",
		"select value " + rep("(", 39) + "x" + rep(")", 39) + " from t", "select value " + rep("(", 45), "select value [" + rep("1,", 201), "select value x" + rep("+1", 300) + " from t", "select 1 from t", "x 'a", "SELECT X FROM T AS X WHERE NOT X.B <> 1", "select value {'a': 1, 'a': 2} from t", rep("select ", 600), rep(" ", 4097),
	}
}

// lent is a text over bytes that can be changed behind its back, as no text can that is kept.
func lent(s string) (string, []byte) {
	b := []byte(s)
	return unsafe.String(unsafe.SliceData(b), len(b)), b
}

func scribble(b []byte) {
	for i := range b {
		b[i] = '#'
	}
}

// walk goes through all texts and lists that something has, lists with their spare room.
func walk(v reflect.Value, text func(s reflect.Value), list func(l reflect.Value)) {
	switch v.Kind() {
	case reflect.String:
		text(v)
	case reflect.Slice:
		whole := v.Slice3(0, v.Len(), v.Cap())
		list(whole)
		for i := range v.Len() {
			walk(v.Index(i), text, list)
		}
	case reflect.Struct:
		for i := range v.NumField() {
			walk(v.Field(i), text, list)
		}
	}
}

// room is where something lies in memory.
type room struct {
	from, to uintptr
	what     string
}

// rooms are those of all texts and lists.
func rooms(x any) []room {
	var out []room
	add := func(from uintptr, size int, what string) {
		if size > 0 {
			out = append(out, room{from, from + uintptr(size), what})
		}
	}
	walk(reflect.ValueOf(x), func(s reflect.Value) {
		add(uintptr(unsafe.Pointer(unsafe.StringData(s.String()))), s.Len(), s.String())
	}, func(l reflect.Value) {
		add(l.Pointer(), l.Cap()*int(l.Type().Elem().Size()), l.Type().String())
	})
	return out
}

// apart fails if two of them share memory.
func apart(t *testing.T, l []room) {
	t.Helper()
	l = slices.Clone(l)
	slices.SortFunc(l, func(a, b room) int { return int(int64(a.from) - int64(b.from)) })
	for i := range l {
		if i > 0 && l[i-1].to > l[i].from {
			t.Errorf("%s and %s share memory", cut(l[i-1].what), cut(l[i].what))
		}
	}
}

// W6: what Parse answers is new memory, and no two of its lists and texts share any.
func TestParseNewMemory(t *testing.T) {
	r := rand.New(rand.NewSource(11))
	texts := ordinary()
	for range 300 {
		texts = append(texts, joined(r, drawnText(r)))
	}
	var kept []api.Stmt
	for _, s := range texts {
		a, _, _ := Parse(s)
		b, _, _ := Parse(s)
		kept = append(kept, a, b)
		apart(t, append(append(rooms(a), rooms(b)...), rooms(s)...))
	}
}

// W6, W7: what was handed to Parse is neither changed nor kept.
func TestParseNotKept(t *testing.T) {
	for _, s := range ordinary() {
		want, wantAt, wantE := chapterParse(s)
		text, bytes := lent(s)
		got, at, e := Parse(text)
		if string(bytes) != s {
			t.Error(cut(s), "was changed")
		}
		scribble(bytes)
		if !alike(got, want) || at != wantAt || e != wantE {
			t.Error(cut(s), short(got), at, e)
		}
	}
}

// lentStmt is a statement whose lists have spare room that is filled, and whose texts can be changed, with all that
// can be.
func lentStmt(s api.Stmt) (api.Stmt, func()) {
	var all [][]byte
	v := reflect.New(reflect.TypeOf(s)).Elem()
	v.Set(reflect.ValueOf(s))
	own(v, &all)
	return v.Interface().(api.Stmt), func() {
		for _, b := range all {
			scribble(b)
		}
		for _, l := range [][]api.Expr{v.Interface().(api.Stmt).What, v.Interface().(api.Stmt).To, v.Interface().(api.Stmt).Where} {
			clear(l)
		}
	}
}

// own gives something texts and lists of its own.
func own(v reflect.Value, all *[][]byte) {
	switch v.Kind() {
	case reflect.String:
		if v.Len() > 0 {
			s, b := lent(v.String())
			v.SetString(s)
			*all = append(*all, b)
		}
	case reflect.Slice:
		l := reflect.MakeSlice(v.Type(), v.Len()+3, v.Len()+3)
		reflect.Copy(l, v)
		for i := range l.Len() {
			if i < v.Len() {
				own(l.Index(i), all)
			} else {
				fill(l.Index(i))
			}
		}
		v.Set(l.Slice(0, v.Len()))
	case reflect.Struct:
		for i := range v.NumField() {
			own(v.Field(i), all)
		}
	}
}

// fill makes something of what is nothing.
func fill(v reflect.Value) {
	switch v.Kind() {
	case reflect.String:
		v.SetString("spare")
	case reflect.Bool:
		v.SetBool(true)
	case reflect.Struct:
		v.Field(0).SetInt(3)
	}
}

// spare is a statement with its lists as long as they have room.
func spare(s api.Stmt) string {
	v := reflect.New(reflect.TypeOf(s)).Elem()
	v.Set(reflect.ValueOf(s))
	var told strings.Builder
	walk(v, func(s reflect.Value) { fmt.Fprintf(&told, "%q ", s.String()) }, func(l reflect.Value) {
		fmt.Fprintf(&told, "%+v ", l.Slice(0, l.Cap()).Interface())
	})
	return told.String()
}

// W6, W7: what is handed to Print and Expr is neither changed nor kept, not even its spare room.
func TestPrintNotKept(t *testing.T) {
	r := rand.New(rand.NewSource(12))
	for i := range 600 {
		s := drawnStmt(r)
		if i < len(eachStmt()) {
			s = eachStmt()[i]
		}
		want, wantE := chapterPrint(s)
		x, change := lentStmt(s)
		before := spare(x)
		p, e := Print(x)
		exprs := slices.Concat(x.What, x.To, x.Where)
		var told []string
		for _, y := range exprs {
			q, _ := Expr(y)
			told = append(told, q)
		}
		if spare(x) != before || !alike(x, s) {
			t.Error(short(s), "was changed")
		}
		copies := make([]string, len(told))
		for i := range told {
			copies[i] = strings.Clone(told[i])
		}
		apart(t, append(rooms(x), append(rooms(p), rooms(told)...)...))
		change()
		if p != want || e != wantE || !slices.Equal(told, copies) {
			t.Error(short(s), cut(p), e)
		}
	}
}

// W2, W7, P0.8, P18.3: each text and each statement has one answer, whatever was asked before.
func TestTwins(t *testing.T) {
	r := rand.New(rand.NewSource(13))
	type answer struct {
		s  string
		x  api.Stmt
		at int
		e  api.Errno
		p  string
		pe api.Errno
	}
	ask := func(s string) answer {
		x, at, e := Parse(s)
		p, pe := Print(x)
		return answer{s, x, at, e, p, pe}
	}
	var l []answer
	for _, s := range ordinary() {
		l = append(l, ask(s))
	}
	for range 1000 {
		l = append(l, ask(joined(r, drawnText(r))))
	}
	for _, a := range slices.Backward(l) {
		b := ask(a.s)
		if !alike(a.x, b.x) || a.at != b.at || a.e != b.e || a.p != b.p || a.pe != b.pe {
			t.Fatal(cut(a.s), short(a.x), short(b.x))
		}
	}
}

// W3: beside an error there is nothing but its place, without one no place.
func TestZeroBesideErrors(t *testing.T) {
	r := rand.New(rand.NewSource(14))
	texts := ordinary()
	for range 3000 {
		l := drawnText(r)
		texts = append(texts, joined(r, l), joined(r, l[:r.Intn(len(l))]))
	}
	for _, s := range texts {
		x, at, e := Parse(s)
		switch e {
		case api.OK:
			if at != 0 || x.Kind == 0 {
				t.Fatal(cut(s), short(x), at)
			}
		case api.ErrSyntax, api.ErrDeep, api.ErrLong:
			if !alike(x, api.Stmt{}) || at < 0 || at > len(s) {
				t.Fatal(cut(s), short(x), at)
			}
		default:
			t.Fatal(cut(s), e)
		}
	}
	for _, s := range eachStmt() {
		for _, x := range spoiltStmts(s) {
			if p, e := Print(x); e != api.OK && (e != api.ErrForm || p != "") {
				t.Fatal(short(x), p, e)
			}
		}
	}
}

// W5: a nil list and an empty one are the same.
func TestNilAndEmpty(t *testing.T) {
	for _, s := range eachStmt() {
		want, _ := Print(s)
		x := s
		v := reflect.ValueOf(&x).Elem()
		for i := range v.NumField() {
			if f := v.Field(i); f.Kind() == reflect.Slice && f.Len() == 0 {
				f.Set(reflect.MakeSlice(f.Type(), 0, 2))
			}
		}
		if p, e := Print(x); p != want || e != api.OK {
			t.Error(short(s), p, e)
		}
	}
	for _, e := range each() {
		want, _ := Expr(e)
		if len(e.Kids) == 0 {
			e.Kids = []api.Expr{}
		}
		if len(e.Names) == 0 {
			e.Names = []string{}
		}
		e.Value.Names, e.Value.Kids = []string{}, []api.Value{}
		if p, err := Expr(e); p != want || err != api.OK {
			t.Error(short(e), p, err)
		}
	}
	x := from(table("t", "t"))
	x.From[0].Path = api.Expr{Names: []string{}, Kids: []api.Expr{}}
	prints(t, x, "select * from t as t")
}

// W1: texts and names of any length, lists and trees of any size.
func TestAnySize(t *testing.T) {
	for _, n := range []int{1 << 16, 1 << 20, 1 << 24} {
		errs(t, rep("(", n), 0, api.ErrLong)
		errs(t, rep("\xff", n), 0, api.ErrLong)
	}
	long := rep("n", 1<<22)
	for _, s := range []string{long + "-", rep("\"", 1<<22), rep("\xff", 1<<22), rep("1", 1<<22)} {
		for _, x := range withName(s) {
			if p, e := Print(x); p != "" || e != api.ErrForm {
				t.Error(cut(s), cut(p), e)
			}
		}
	}
	if p, e := Expr(name(long)); p != long || e != api.OK {
		t.Error(cut(p), e)
	}
	if p, e := Expr(list(make([]api.Expr, 1<<18)...)); p != "" || e != api.ErrForm {
		t.Error(cut(p), e)
	}
	// About as much as MaxFields lists of so many members have.
	e := list(slices.Repeat([]api.Expr{num(1)}, 200)...)
	e = list(slices.Repeat([]api.Expr{e}, 200)...)
	e = list(slices.Repeat([]api.Expr{e}, 10)...)
	if p, err := Expr(e); len(p) != 10*(200*(600+2)+2)-2+2 || err != api.OK {
		t.Error(len(p), err)
	}
}

// W9: there is nothing that calls at the same time share.
func TestAtTheSameTime(t *testing.T) {
	var work sync.WaitGroup
	stmts := eachStmt()
	for range 8 {
		work.Go(func() {
			for range 5 {
				for _, s := range ordinary()[:16] {
					asTheChapter(t, s)
				}
				for _, s := range stmts {
					printsAsTheChapter(t, s)
				}
			}
		})
	}
	work.Wait()
}

func FuzzAnyBytes(f *testing.F) {
	r := rand.New(rand.NewSource(15))
	for _, s := range ordinary() {
		f.Add(s)
	}
	for range 200 {
		f.Add(joined(r, drawnText(r)))
	}
	f.Fuzz(func(t *testing.T, s string) {
		asTheChapter(t, s)
		comesBack(t, s)
	})
}
