package text

import (
	"encoding/hex"
	"fmt"
	"math"
	"math/big"
	"math/rand"
	"regexp"
	"runtime"
	"runtime/debug"
	"slices"
	"strconv"
	"strings"
	"sync"
	"testing"
	"unsafe"

	"scrivener/api"
	"scrivener/codec"
	"scrivener/decimal"
	"scrivener/value"
)

func null() api.Value               { return api.Value{Kind: api.Null} }
func truth(n int) api.Value         { return api.Value{Kind: api.Bool, Int: n} }
func num(n int) api.Value           { return api.Value{Kind: api.Int, Int: n} }
func dec(n, s int) api.Value        { return api.Value{Kind: api.Decimal, Int: n, Scale: s} }
func clock(n int) api.Value         { return api.Value{Kind: api.Time, Int: n} }
func text(s string) api.Value       { return api.Value{Kind: api.Text, Text: s} }
func blob(s string) api.Value       { return api.Value{Kind: api.Blob, Text: s} }
func list(l ...api.Value) api.Value { return api.Value{Kind: api.List, Kids: l} }

// record is a struct with these names, parted by blanks.
func record(names string, kids ...api.Value) api.Value {
	return api.Value{Kind: api.Struct, Names: strings.Fields(names), Kids: kids}
}

// under is a struct with one field.
func under(name string, v api.Value) api.Value {
	return api.Value{Kind: api.Struct, Names: []string{name}, Kids: []api.Value{v}}
}

// many is n kids, all alike.
func many(n int, v api.Value) []api.Value { return slices.Repeat([]api.Value{v}, n) }

// wide is a struct of n fields.
func wide(n int) api.Value {
	v := api.Value{Kind: api.Struct, Kids: many(n, null())}
	for i := range n {
		v.Names = append(v.Names, fmt.Sprintf("n%05d", i))
	}
	return v
}

// letters is a text of n bytes.
func letters(n int) api.Value { return text(rep("x", n)) }

// nested is v within n lists or structs, by turns.
func nested(v api.Value, n int) api.Value {
	for i := range n {
		if i%2 == 0 {
			v = list(v)
		} else {
			v = under("in", v)
		}
	}
	return v
}

// sized is a value that Encode makes just n bytes of, for n around MaxBytes: texts of this byte.
func sized(n int, of string) api.Value {
	great := text(rep(of, 1<<14))
	// The list has 2 bytes, each great text 4 beside its own, one of 2^13 or more but less than 2^14 has 3.
	left := n - 2 - 3*(4+1<<14) - (3 + 1<<13) - 3
	return list(great, great, great, text(rep(of, 1<<13)), text(rep(of, left)))
}

func rep(s string, n int) string { return strings.Repeat(s, n) }

// one is a text of one byte.
func one(x int) string { return string([]byte{byte(x)}) }

// cut is a text for a message, cut where it is long.
func cut(s string) string {
	if len(s) <= 100 {
		return strconv.Quote(s)
	}
	return fmt.Sprintf("%q .. (%d bytes)", s[:100], len(s))
}

// short is a value for a message, cut where it is long.
func short(v api.Value) string {
	if value.Check(v) == api.ErrDeep {
		return fmt.Sprintf("a value of kind %d that is too deep", v.Kind)
	}
	s := fmt.Sprintf("%+v", v)
	return s[:min(len(s), 300)]
}

// alike tells whether two are alike in all, be they values or not; a nil list is like an empty one.
func alike(a, b api.Value) bool {
	return a.Kind == b.Kind && a.Int == b.Int && a.Scale == b.Scale && a.Text == b.Text && slices.Equal(a.Names, b.Names) && slices.EqualFunc(a.Kids, b.Kids, alike)
}

// ordinary are values of each kind.
func ordinary() []api.Value {
	out := []api.Value{
		null(), truth(0), truth(1),
		clock(0), clock(1), clock(9), clock(10), clock(300), clock(1<<32 + 7), clock(1<<53 - 1), clock(1 << 53),
		text(""), text("a"), text("ab"), text("it's"), text("'"), text("''"), text("'a'"), text(`\`), text(`\27`), text(`\5c`), text("a\\'b"), text("'\\"), text("\x00"), text("\xff\xfe"), text("é"), text("日本"), text(" "), text(", "), text("null"), text("12"), text("[1, 2]"), text("{'a': 1}"), text("\t\r\n"), text("#00"), text("\x1f ~\x7f\x80"), text(rep("z", 300)), text(rep("'", 300)), text(rep("\n", 300)),
		blob(""), blob("a"), blob("\x00"), blob("\x00\xff\x80"), blob("it's"), blob("\x09\x0a\x90\xa0"), blob(rep("\xff", 300)),
		list(), list(null()), list(null(), truth(1)), list(num(1), num(1)), list(list()), list(list(), list()), list(list(), list(list(null()), text("x")), num(-300)), list(record(""), under("a", null())), list(blob(""), blob("")), list(blob("a"), text("")), list(clock(7), dec(-5, 2)), list(text("a"), text("'"), text("")), list(many(128, null())...), list(text(", "), text("]")),
		record(""), under("a", null()), under("'", num(1)), under(`\`, num(1)), under("\x00", blob("")), under("é", text("é")), under(" ", list()), under("a: b", text(": ")), under(rep("n", api.MaxName), list()), under(rep("'", api.MaxName), truth(0)), under(rep("\xff", api.MaxName), list()), record("a b", list(null(), truth(1)), dec(-15, 1)), record("a aa b", num(1), text("two"), blob("three")), record("A a", record(""), record("")),
		under("a", under("a", under("a", list(clock(7), record("x y", null(), list()))))), wide(127),
	}
	return append(out, numbers()...)
}

// numbers are those around each power of ten and of two, of both signs, as Ints and with each Scale.
func numbers() []api.Value {
	out := []api.Value{num(math.MaxInt), num(math.MinInt), num(math.MinInt + 1)}
	for s := 1; s <= api.MaxScale; s++ {
		for _, n := range []int{1, -1, 9, -9, 11, -64, 63, 101, math.MaxInt, math.MinInt} {
			out = append(out, dec(n, s))
		}
	}
	for i, p := 0, 1; i < 19; i, p = i+1, p*10 {
		for _, n := range []int{p, p - 1, p + 1, 9 * p, -p, 1 - p, -p - 1} {
			out = append(out, num(n))
			if n%10 != 0 {
				out = append(out, dec(n, 1), dec(n, i%18+1), dec(n, 18))
			}
		}
	}
	for i := range 62 {
		out = append(out, num(1<<i), num(-1<<i), num(1<<i+3), num(-1<<i-3))
	}
	return out
}

// greatest are values at the edges.
func greatest() []api.Value {
	return []api.Value{
		letters(1<<14 - 1), letters(1 << 14), text(rep("'", 1<<14)), text(rep("\xff", 1<<14)), blob(rep("\xff", 1<<14)), list(many(api.MaxFields, null())...), wide(api.MaxFields),
		nested(null(), api.MaxDeep-1), nested(list(), api.MaxDeep-1), nested(record(""), api.MaxDeep-1), nested(letters(1<<14), api.MaxDeep-1), nested(dec(-7, 3), api.MaxDeep-1),
		sized(api.MaxBytes-1, "x"), sized(api.MaxBytes, "x"), sized(api.MaxBytes, "'"), sized(api.MaxBytes, "\x00"),
		{Kind: api.List, Names: []string{}, Kids: []api.Value{}}, {Kind: api.Null, Names: []string{}, Kids: []api.Value{}},
	}
}

// fault is what Encode refuses, and its error.
type fault struct {
	v api.Value
	e api.Errno
}

// writtenFaults are faults that can be written as values are: of no value is their text all the same.
func writtenFaults() []fault {
	return []fault{
		{dec(0, 1), api.ErrForm}, {dec(1, 19), api.ErrForm}, {dec(1, 300), api.ErrForm}, {dec(20, 1), api.ErrForm}, {dec(-10, 18), api.ErrForm}, {dec(0, 18), api.ErrForm},
		{clock(1<<53 + 1), api.ErrForm}, {clock(math.MaxInt), api.ErrForm}, {clock(-1), api.ErrForm}, {clock(math.MinInt), api.ErrForm},
		{letters(1<<14 + 1), api.ErrLong}, {letters(1 << 16), api.ErrLong}, {blob(rep("\xff", 1<<14+1)), api.ErrLong}, {text(rep("'", 1<<14+1)), api.ErrLong}, {text(rep("\x00", 1<<14+1)), api.ErrLong}, {list(many(api.MaxFields+1, null())...), api.ErrLong}, {wide(api.MaxFields + 1), api.ErrLong},
		{list(many(1<<16, null())...), api.ErrLong}, {wide(1 << 13), api.ErrLong}, {api.Value{Kind: api.Struct, Names: make([]string, 201), Kids: many(201, null())}, api.ErrLong},
		{under("", null()), api.ErrForm}, {under(rep("n", api.MaxName+1), null()), api.ErrForm}, {under(rep("'", api.MaxName+1), null()), api.ErrForm}, {under(rep("n", 1<<16), null()), api.ErrForm}, {record("b a", null(), null()), api.ErrForm}, {record("a a", null(), null()), api.ErrForm}, {record("a b b c", many(4, null())...), api.ErrForm}, {record("a A", null(), null()), api.ErrForm}, {record("aa a", null(), null()), api.ErrForm},
		{nested(null(), api.MaxDeep), api.ErrDeep}, {nested(list(), api.MaxDeep), api.ErrDeep}, {nested(list(), 40), api.ErrDeep}, {list(null(), nested(num(5), api.MaxDeep-1)), api.ErrDeep}, {nested(text(""), 300), api.ErrDeep},
		// Too many bytes in all.
		{sized(api.MaxBytes+1, "x"), api.ErrLong}, {sized(api.MaxBytes+2, "\x00"), api.ErrLong}, {list(many(5, letters(1<<14))...), api.ErrLong}, {list(many(200, letters(1<<14))...), api.ErrLong}, {list(many(200, list(many(200, clock(1<<20))...))...), api.ErrLong},
		// What stands at the top is ahead of the kids, each kid ahead of the next one.
		{record("b a", letters(1<<14+1), null()), api.ErrForm}, {list(many(201, dec(20, 1))...), api.ErrLong}, {list(dec(20, 1), letters(1<<14+1)), api.ErrForm}, {list(letters(1<<14+1), dec(20, 1)), api.ErrLong}, {list(null(), list(list(dec(0, 1))), letters(1<<14+1)), api.ErrForm},
		// Too many bytes in all is behind all else, wherever it stands.
		{list(append(many(5, letters(1<<14)), dec(20, 1))...), api.ErrForm}, {list(append(many(5, letters(1<<14)), nested(null(), 15))...), api.ErrDeep}, {list(append(many(5, letters(1<<14)), record("b a", null(), null()))...), api.ErrForm}, {list(nested(null(), 15), list(many(200, letters(1<<14))...)), api.ErrDeep},
	}
}

// faults are all kinds of what Encode refuses.
func faults() []fault {
	return append(writtenFaults(), []fault{
		{api.Value{}, api.ErrForm}, {api.Value{Kind: 10}, api.ErrForm}, {api.Value{Kind: -1}, api.ErrForm}, {api.Value{Kind: 256 + api.Null}, api.ErrForm}, {api.Value{Kind: math.MinInt}, api.ErrForm},
		{truth(2), api.ErrForm}, {truth(-1), api.ErrForm}, {dec(1, 0), api.ErrForm}, {dec(1, -1), api.ErrForm}, {dec(1, math.MaxInt), api.ErrForm}, {dec(1, math.MinInt), api.ErrForm},
		{api.Value{Kind: api.Null, Text: "x"}, api.ErrForm}, {api.Value{Kind: api.Int, Scale: 1}, api.ErrForm}, {api.Value{Kind: api.Time, Scale: 1}, api.ErrForm}, {api.Value{Kind: api.Text, Kids: many(1, null())}, api.ErrForm}, {api.Value{Kind: api.Text, Text: "x", Int: 1}, api.ErrForm}, {api.Value{Kind: api.List, Names: []string{"a"}, Kids: many(1, null())}, api.ErrForm},
		{record("a b", null()), api.ErrForm}, {record("a", null(), null()), api.ErrForm}, {record("a"), api.ErrForm},
		{list(null(), nested(api.Value{}, api.MaxDeep-1)), api.ErrDeep}, {nested(api.Value{}, api.MaxDeep-1), api.ErrForm}, {list(num(1), api.Value{}), api.ErrForm},
		{list(append(many(5, letters(1<<14)), api.Value{})...), api.ErrForm}, {list(append([]api.Value{{}}, many(5, letters(1<<14))...)...), api.ErrForm},
	}...)
}

// The chapter, clause by clause: what the tests below hold the answers against.

// chapterNumber is a number's text, by the library's fractions.
func chapterNumber(v api.Value) string {
	tens := new(big.Int).Exp(big.NewInt(10), big.NewInt(int64(v.Scale)), nil)
	return new(big.Rat).SetFrac(big.NewInt(int64(v.Int)), tens).FloatString(v.Scale)
}

func chapterQuoted(s string) string {
	out := ""
	if strings.Count(s, s[:min(len(s), 1)]) == len(s) && len(s) > 1 {
		// Of one byte many times: for great texts, a sum of texts takes long.
		once := chapterQuoted(s[:1])
		return "'" + rep(once[1:len(once)-1], len(s)) + "'"
	}
	for _, x := range []byte(s) {
		switch {
		case x == '\'':
			out += "''"
		case x == 0x5c || x < 0x20 || x > 0x7e:
			out += fmt.Sprintf("\\%02x", x)
		default:
			out += string(rune(x))
		}
	}
	return "'" + out + "'"
}

// chapterText is a value's text, even of some that are no values.
func chapterText(v api.Value) string {
	var parts []string
	for i, kid := range v.Kids {
		part := chapterText(kid)
		if v.Kind == api.Struct {
			part = chapterQuoted(v.Names[i]) + ": " + part
		}
		parts = append(parts, part)
	}
	switch v.Kind {
	case api.Null:
		return "null"
	case api.Bool:
		return fmt.Sprint(v.Int == 1)
	case api.Int, api.Decimal:
		return chapterNumber(v)
	case api.Time:
		return fmt.Sprintf("@%d", v.Int)
	case api.Text:
		return chapterQuoted(v.Text)
	case api.Blob:
		return fmt.Sprintf("#%x", v.Text)
	case api.List:
		return "[" + strings.Join(parts, ", ") + "]"
	case api.Struct:
		return "{" + strings.Join(parts, ", ") + "}"
	}
	panic("no kind")
}

func chapterPrint(v api.Value) (string, api.Errno) {
	if _, e := codec.Encode(v); e != api.OK {
		return "", e
	}
	return chapterText(v), api.OK
}

// The texts of values that have no kids, as expressions: what begins so, as long as it goes on.
var (
	wordForm   = regexp.MustCompile(`^(null|true|false)`)
	numberForm = regexp.MustCompile(`^-?(0|[1-9][0-9]*)(\.[0-9]{0,17}[1-9])?`)
	timeForm   = regexp.MustCompile(`^@(0|[1-9][0-9]*)`)
	textForm   = regexp.MustCompile(`^'([\x20-\x26\x28-\x5b\x5d-\x7e]|''|\\([01][0-9a-f]|5c|7f|[89a-f][0-9a-f]))*'`)
	blobForm   = regexp.MustCompile(`^#([0-9a-f][0-9a-f])*`)
	signForm   = regexp.MustCompile(`''|\\..|.`)
)

// chapterReader goes through a text, and panics where it is of no value.
type chapterReader struct{ left string }

func must(is bool) {
	if !is {
		panic(api.ErrForm)
	}
}

func (r *chapterReader) begins(s string) bool {
	is := strings.HasPrefix(r.left, s)
	if is {
		r.left = r.left[len(s):]
	}
	return is
}

func (r *chapterReader) form(f *regexp.Regexp) string {
	at := f.FindStringIndex(r.left)
	must(at != nil)
	got := r.left[:at[1]]
	r.left = r.left[at[1]:]
	return got
}

func chapterInt(digits string) int {
	n, ok := new(big.Int).SetString(digits, 10)
	must(ok && n.IsInt64())
	return int(n.Int64())
}

func (r *chapterReader) number() api.Value {
	got := r.form(numberForm)
	must(got != "-0")
	whole, part, _ := strings.Cut(got, ".")
	n := chapterInt(whole + part)
	if part == "" {
		return num(n)
	}
	return dec(n, len(part))
}

func (r *chapterReader) text() string {
	got := r.form(textForm)
	return signForm.ReplaceAllStringFunc(got[1:len(got)-1], func(sign string) string {
		switch len(sign) {
		case 3:
			b, e := hex.DecodeString(sign[1:])
			must(e == nil)
			return string(b)
		case 2:
			return "'"
		}
		return sign
	})
}

func (r *chapterReader) word() api.Value {
	switch r.form(wordForm) {
	case "true":
		return truth(1)
	case "false":
		return truth(0)
	}
	return null()
}

func (r *chapterReader) value(deep int) (v api.Value) {
	must(deep <= 16 && r.left != "")
	switch x := r.left[0]; {
	case x == '@':
		return clock(chapterInt(r.form(timeForm)[1:]))
	case x == '\'':
		return text(r.text())
	case x == '#':
		b, e := hex.DecodeString(r.form(blobForm)[1:])
		must(e == nil)
		return blob(string(b))
	case r.begins("[]"):
		return list()
	case r.begins("{}"):
		return record("")
	case r.begins("["):
		v.Kind = api.List
		for v.Kids = append(v.Kids, r.value(deep+1)); r.begins(", "); {
			v.Kids = append(v.Kids, r.value(deep+1))
		}
		must(r.begins("]"))
		return v
	case r.begins("{"):
		v.Kind = api.Struct
		for more := true; more; more = r.begins(", ") {
			v.Names = append(v.Names, r.text())
			must(r.begins(": "))
			v.Kids = append(v.Kids, r.value(deep+1))
		}
		must(r.begins("}"))
		return v
	case x == '-' || '0' <= x && x <= '9':
		return r.number()
	}
	return r.word()
}

func chapterParse(s string) (v api.Value, e api.Errno) {
	defer func() {
		if met := recover(); met != nil {
			v, e = api.Value{}, met.(api.Errno)
		}
	}()
	r := &chapterReader{left: s}
	v = r.value(1)
	_, refused := codec.Encode(v)
	must(r.left == "" && refused == api.OK)
	return v, api.OK
}

func prints(t *testing.T, v api.Value, want string, e api.Errno) {
	t.Helper()
	if s, f := Print(v); s != want || f != e {
		t.Errorf("Print(%s) = %s, %v, want %s, %v", short(v), cut(s), f, cut(want), e)
	}
}

func parses(t *testing.T, s string, want api.Value, e api.Errno) {
	t.Helper()
	if v, f := Parse(s); !alike(v, want) || f != e {
		t.Errorf("Parse(%s) = %s, %v, want %s, %v", cut(s), short(v), f, short(want), e)
	}
}

func refuses(t *testing.T, s string) {
	t.Helper()
	parses(t, s, api.Value{}, api.ErrForm)
}

// refusesWithin is refuses of a text alone, and of it as a kid.
func refusesWithin(t *testing.T, s string) {
	t.Helper()
	refuses(t, s)
	refuses(t, "["+s+"]")
	refuses(t, "[1, "+s+"]")
	refuses(t, "["+s+", 1]")
	refuses(t, "{'a': "+s+"}")
	refuses(t, "{'a': "+s+", 'b': 1}")
}

// both fails unless this is the text of this value, and this is the value of this text.
func both(t *testing.T, s string, v api.Value) {
	t.Helper()
	prints(t, v, s, api.OK)
	parses(t, s, v, api.OK)
}

// everywhere is both of a value alone, and of it as a kid.
func everywhere(t *testing.T, s string, v api.Value) {
	t.Helper()
	both(t, s, v)
	both(t, "["+s+"]", list(v))
	both(t, "["+s+", "+s+"]", list(v, v))
	both(t, "[[1, "+s+"], null]", list(list(num(1), v), null()))
	both(t, "{'a': "+s+"}", under("a", v))
	both(t, "{'a': "+s+", 'b': "+s+"}", record("a b", v, v))
	both(t, "{'a': [{'b': "+s+"}]}", under("a", list(under("b", v))))
}

func valueAsTheChapter(t *testing.T, v api.Value) {
	t.Helper()
	s, e := chapterPrint(v)
	prints(t, v, s, e)
}

func textAsTheChapter(t *testing.T, s string) {
	t.Helper()
	v, e := chapterParse(s)
	parses(t, s, v, e)
}

// P9.1: Print and Parse

func TestExample(t *testing.T) {
	both(t, "{'a': 1, 'b': [null, 'it''s', #00]}", record("a b", num(1), list(null(), text("it's"), blob("\x00"))))
}

// Written out, of each kind.
func TestEachKind(t *testing.T) {
	everywhere(t, "null", null())
	everywhere(t, "true", truth(1))
	everywhere(t, "false", truth(0))
	everywhere(t, "0", num(0))
	everywhere(t, "1", num(1))
	everywhere(t, "-1", num(-1))
	everywhere(t, "-10", num(-10))
	everywhere(t, "1234567890", num(1234567890))
	everywhere(t, "0.5", dec(5, 1))
	everywhere(t, "-0.05", dec(-5, 2))
	everywhere(t, "2.5", dec(25, 1))
	everywhere(t, "-10.01", dec(-1001, 2))
	everywhere(t, "@0", clock(0))
	everywhere(t, "@12", clock(12))
	everywhere(t, "'ab'", text("ab"))
	everywhere(t, "'a''b'", text("a'b"))
	everywhere(t, "''''", text("'"))
	everywhere(t, "''''''", text("''"))
	everywhere(t, `'\5c'`, text(`\`))
	everywhere(t, `'\5c27'`, text(`\27`))
	everywhere(t, `'\5c'''`, text(`\'`))
	everywhere(t, `'''\5c'`, text(`'\`))
	everywhere(t, `'\c3\a9'`, text("é"))
	everywhere(t, "'a, b: [c] {d} #00 @1 \"'", text(`a, b: [c] {d} #00 @1 "`))
	everywhere(t, "#61ff", blob("a\xff"))
	everywhere(t, "#0a1b2c3d4e5f", blob("\x0a\x1b\x2c\x3d\x4e\x5f"))
	everywhere(t, "[1]", list(num(1)))
	everywhere(t, "[[], [[]]]", list(list(), list(list())))
	everywhere(t, "{'a': {'b': {}}}", under("a", under("b", record(""))))
	everywhere(t, "{'A': 1, 'a': 2, 'b': 3}", record("A a b", num(1), num(2), num(3)))
	everywhere(t, "{'it''s': 'it''s'}", under("it's", text("it's")))
	everywhere(t, `{'\00': null, '\ff': null}`, api.Value{Kind: api.Struct, Names: []string{"\x00", "\xff"}, Kids: many(2, null())})
}

func TestOfNothing(t *testing.T) {
	everywhere(t, "''", text(""))
	everywhere(t, "#", blob(""))
	everywhere(t, "[]", list())
	everywhere(t, "{}", record(""))
	everywhere(t, "['', #, [], {}]", list(text(""), blob(""), list(), record("")))
	// An empty list that is handed in is the same as none.
	prints(t, api.Value{Kind: api.List, Names: []string{}, Kids: []api.Value{}}, "[]", api.OK)
	prints(t, api.Value{Kind: api.Struct, Names: []string{}, Kids: []api.Value{}}, "{}", api.OK)
	prints(t, api.Value{Kind: api.Text, Names: []string{}, Kids: []api.Value{}}, "''", api.OK)
}

// signOf is what stands for a byte in a text, written down by its number.
func signOf(x int) string {
	if x == 0x27 {
		return "''"
	}
	if x < 0x20 || x >= 0x7f || x == 0x5c {
		return `\` + hex.EncodeToString([]byte{byte(x)})
	}
	return one(x)
}

func TestEachByte(t *testing.T) {
	for _, f := range []struct {
		x    int
		sign string
	}{{0x00, `\00`}, {0x0a, `\0a`}, {0x1f, `\1f`}, {0x20, " "}, {0x21, "!"}, {0x26, "&"}, {0x27, "''"}, {0x28, "("}, {0x5b, "["}, {0x5c, `\5c`}, {0x5d, "]"}, {0x7d, "}"}, {0x7e, "~"}, {0x7f, `\7f`}, {0x80, `\80`}, {0xff, `\ff`}} {
		if signOf(f.x) != f.sign {
			t.Fatalf("the tests take %s for %02x", signOf(f.x), f.x)
		}
	}
	for x := range 256 {
		sign, digits := signOf(x), fmt.Sprintf("%02x", x)
		everywhere(t, "'"+sign+"'", text(one(x)))
		everywhere(t, "'a"+sign+"b"+sign+sign+"'", text("a"+one(x)+"b"+one(x)+one(x)))
		everywhere(t, "#"+digits, blob(one(x)))
		everywhere(t, "#61"+digits+digits+"62", blob("a"+one(x)+one(x)+"b"))
		everywhere(t, "{'"+sign+"': 1}", under(one(x), num(1)))
		everywhere(t, "{'a"+sign+sign+"b': '"+sign+"'}", under("a"+one(x)+one(x)+"b", text(one(x))))
	}
}

// Each byte behind each other one, in a Text and in a name.
func TestEachTwoBytes(t *testing.T) {
	for x := range 256 {
		for y := range 256 {
			both(t, "'"+signOf(x)+signOf(y)+"'", text(one(x)+one(y)))
		}
		for _, y := range []int{0x00, 0x1f, 0x20, 0x27, 0x30, 0x5c, 0x61, 0x7e, 0x7f, 0xff} {
			both(t, "{'"+signOf(x)+signOf(y)+"': '"+signOf(y)+signOf(x)+"'}", under(one(x)+one(y), text(one(y)+one(x))))
		}
	}
}

func TestNumbers(t *testing.T) {
	for s, v := range map[string]api.Value{
		"9223372036854775807": num(math.MaxInt), "-9223372036854775808": num(math.MinInt), "9.223372036854775807": dec(math.MaxInt, 18), "-9.223372036854775808": dec(math.MinInt, 18), "922337203685477580.7": dec(math.MaxInt, 1), "-922337203685477580.8": dec(math.MinInt, 1),
		"0.000000000000000001": dec(1, 18), "-0.000000000000000001": dec(-1, 18), "-0.000000000000000064": dec(-64, 18), "0.1": dec(1, 1), "-0.1": dec(-1, 1), "100": num(100), "10.1": dec(101, 1), "0.01": dec(1, 2),
	} {
		everywhere(t, s, v)
	}
	for _, v := range numbers() {
		s, e := decimal.Text(v)
		if e != api.OK {
			t.Fatalf("Text(%s): %v", short(v), e)
		}
		both(t, s, v)
		both(t, "["+s+", "+s+"]", list(v, v))
		both(t, "{'n': "+s+"}", under("n", v))
	}
}

func TestTimes(t *testing.T) {
	everywhere(t, "@0", clock(0))
	everywhere(t, "@9007199254740992", clock(1<<53))
	everywhere(t, "@9007199254740991", clock(1<<53-1))
	for i := range 54 {
		both(t, "@"+strconv.Itoa(1<<i), clock(1<<i))
	}
	for _, s := range []string{"@9007199254740993", "@9223372036854775807", "@9223372036854775808", "@18446744073709551616", "@18446744073709551617", "@" + rep("9", 1000), "@-1", "@-0", "@-9223372036854775808", "@", "@@1", "@a", "@ 1", "@+1", "@00", "@01", "@012", "@1.5", "@1.0", "@0.0", "@1.", "@.5", "@1e3", "@0x1", "@1_0", "@'1'", "@null", "@#00"} {
		refusesWithin(t, s)
	}
}

func TestOrdinaryAndGreatest(t *testing.T) {
	for _, v := range append(ordinary(), greatest()...) {
		s := chapterText(v)
		both(t, s, v)
		if _, deep := value.Size(v); deep+3 <= api.MaxDeep && len(s) < 5000 {
			everywhere(t, s, v)
		}
	}
}

// The longest texts: of what takes few bytes, as many as may be.
func TestLongestTexts(t *testing.T) {
	row := func(n int, v api.Value) api.Value { return list(many(n, v)...) }
	for _, kid := range []api.Value{dec(-64, 18), dec(-1, 18), null(), truth(0), num(-64), num(math.MinInt), dec(math.MinInt, 18), clock(100), blob(""), list(), record(""), text("\x00")} {
		b, _ := codec.Encode(row(200, kid))
		n := min((api.MaxBytes-3)/len(b), 200)
		v := row(n, row(200, kid))
		both(t, chapterText(v), v)
	}
	// Just MaxBytes, nearly all of them of what becomes longest.
	v := list(many(108, row(200, dec(-64, 18)))...)
	v.Kids = append(v.Kids, row(130, dec(-64, 18)))
	b, e := codec.Encode(v)
	for e == api.OK && len(b) < api.MaxBytes {
		v.Kids = append(v.Kids, null())
		b, e = codec.Encode(v)
	}
	if e != api.OK || len(b) != api.MaxBytes {
		t.Fatalf("%d bytes, %v", len(b), e)
	}
	both(t, chapterText(v), v)
	v.Kids = append(v.Kids, null())
	prints(t, v, "", api.ErrLong)
	refuses(t, chapterText(v))
}

// P9.1: the errors of Print

func TestPrintErrors(t *testing.T) {
	for _, f := range faults() {
		if _, e := codec.Encode(f.v); e != f.e {
			t.Fatalf("Encode(%s) = %v, want %v", short(f.v), e, f.e)
		}
		prints(t, f.v, "", f.e)
		if f.e == api.ErrDeep {
			prints(t, list(null(), f.v), "", f.e)
		}
	}
}

// Of several that are wrong the error is that of Encode, whichever they are.
func TestFirstErrorOfPrint(t *testing.T) {
	all := faults()
	for _, f := range all {
		for _, g := range all {
			for _, v := range []api.Value{list(f.v, g.v), record("a b", g.v, f.v), record("b a", f.v, g.v), list(num(1), under("x", f.v), g.v)} {
				_, e := codec.Encode(v)
				if e == api.OK {
					t.Fatalf("Encode takes %s", short(v))
				}
				prints(t, v, "", e)
			}
		}
	}
}

// A list of kids that is within itself ends, too.
func TestPrintOfWhatIsWithinItself(t *testing.T) {
	v := list(null())
	v.Kids[0] = v
	prints(t, v, "", api.ErrDeep)
	w := under("a", null())
	w.Kids[0] = w
	prints(t, w, "", api.ErrDeep)
}

// P9.1: texts of no value

func TestOfNoText(t *testing.T) {
	refuses(t, "")
	refuses(t, " ")
	for x := range 256 {
		textAsTheChapter(t, one(x))
		if !strings.Contains("0123456789#", one(x)) {
			refusesWithin(t, one(x))
		}
	}
}

func TestWordsThatAreNone(t *testing.T) {
	for _, w := range []string{"null", "true", "false"} {
		for n := 1; n < len(w); n++ {
			refusesWithin(t, w[:n])
			refusesWithin(t, w[n:])
			refusesWithin(t, w[:n]+strings.ToUpper(w[n:]))
			refusesWithin(t, w[:n]+" "+w[n:])
			refusesWithin(t, w[:n]+"x"+w[n+1:])
		}
		refusesWithin(t, strings.ToUpper(w))
		refusesWithin(t, strings.ToUpper(w[:1])+w[1:])
		refusesWithin(t, w+w)
		refusesWithin(t, w+"x")
		refusesWithin(t, "'"+w)
		refusesWithin(t, w+"'")
	}
	for _, w := range []string{"nil", "none", "missing", "yes", "no", "t", "f", "n", "Infinity", "NaN", "undefined", "a", "x", "truth", "fals", "nulll", "falsee", "truee"} {
		refusesWithin(t, w)
	}
}

// What ends early is no text of a value, unless it is that of another one.
func TestTextThatEnds(t *testing.T) {
	for _, v := range append(ordinary(), greatest()[7:12]...) {
		s := chapterText(v)
		for n := 0; n < len(s); n += 1 + n/100 {
			textAsTheChapter(t, s[:n])
			if v.Kind <= api.Bool || v.Kind >= api.List {
				refuses(t, s[:n])
			}
			if v.Kind == api.Text && !strings.Contains(v.Text, "'") {
				refuses(t, s[:n])
			}
			refuses(t, "["+s[:n])
			refuses(t, "[1, "+s[:n])
			refuses(t, "{'a': "+s[:n])
		}
	}
}

func TestSomethingBehind(t *testing.T) {
	for _, v := range append(ordinary(), greatest()...) {
		s := chapterText(v)
		if len(s) > 5000 {
			refuses(t, s+" ")
			refuses(t, s+"1")
			refuses(t, s+s)
			continue
		}
		for x := range 256 {
			textAsTheChapter(t, s+one(x))
			if v.Kind <= api.Bool || v.Kind >= api.List || !strings.Contains("0123456789abcdef.", one(x)) {
				refuses(t, s+one(x))
			}
		}
		for _, more := range []string{" ", "  ", "\n", ", ", ", 1", " null", "null", "]", "}", "[]", "{}", "#", "@1", "-1", ": 1", "\x00", "--", ";"} {
			refuses(t, s+more)
			textAsTheChapter(t, "["+s+more)
			if more != "]" {
				refuses(t, "["+s+more)
			}
		}
	}
}

func TestSomethingAhead(t *testing.T) {
	for _, v := range append(ordinary(), greatest()...) {
		s := chapterText(v)
		for _, more := range []string{" ", "\n", "\t", "\x00", ", ", "]", "+", "null", "[], ", "\ufeff", ":", "(", "\"", "`"} {
			refuses(t, more+s)
		}
	}
}

// Blanks stand behind each comma and each colon, one of them, and nowhere else.
func TestBlanks(t *testing.T) {
	for _, s := range []string{
		"[ ]", "{ }", "[ 1]", "[1 ]", "[1,2]", "[1,  2]", "[1 , 2]", "[1 ,2]", "[1 2]", "[1,\t2]", "[1,\n2]", "[1\n, 2]", "[1,\r\n2]", "[1,\xa02]", "[1,\u00a02]", "[[1],[2]]", "[1, 2, 3,4]", "[1, 2 , 3]",
		"{'a':1}", "{'a' : 1}", "{'a' :1}", "{'a':  1}", "{ 'a': 1}", "{'a': 1 }", "{'a': 1,'b': 2}", "{'a': 1,  'b': 2}", "{'a': 1 , 'b': 2}", "{'a': 1, 'b':2}", "{'a':\t1}", "{'a':\n1}", "{'a': 1,\n'b': 2}",
		"- 1", "1. 5", "1 .5", "@ 1", "# 00", "#00 00", "#0 0", "nu ll", "' '' ''", "'' ''", "\\20",
	} {
		refusesWithin(t, s)
	}
	for _, v := range append(ordinary(), greatest()[7:12]...) {
		s := chapterText(v)
		if len(s) > 2000 {
			continue
		}
		for i := range len(s) {
			for _, blank := range []string{" ", "\t", "\n"} {
				textAsTheChapter(t, s[:i]+blank+s[i:])
			}
			if s[i] == ' ' {
				textAsTheChapter(t, s[:i]+s[i+1:])
				textAsTheChapter(t, s[:i]+"\t"+s[i+1:])
			}
		}
	}
}

func TestCommasAndColonsThatAreNone(t *testing.T) {
	for _, s := range []string{
		"[", "]", "[1", "1]", "[,]", "[, ]", "[, 1]", "[1, ]", "[1,]", "[1,", "[1, ", "[1, , 2]", "[1; 2]", "[1: 2]", "[1}", "{1]", "[1]]", "[[1]", "(1)", "(1, 2)", "<1>", "[1, 2", "['a': 1]", "[1].", "[]]", "[[]", "][",
		"{", "}", "{'a'", "{'a'}", "{'a':", "{'a': ", "{'a': }", "{'a': 1", "{'a': 1,", "{'a': 1, ", "{'a': 1, }", "{'a': 1,}", "{, }", "{,}", "{, 'a': 1}", "{: 1}", "{'a', 1}", "{'a'= 1}", "{'a'; 1}", "{'a': 1]", "{'a': 1; 'b': 2}", "{'a': 1, 'b'}", "{'a': 1, 'b': }", "{'a': 1, 2}", "{'a': 'b': 1}", "{'a': 1}}", "{{'a': 1}", "{1}", "{[]}", "{{}}", "{}{}", "{'a': 1 'b': 2}", "{'a'1}", "{'a' 1}",
		"{a: 1}", "{\"a\": 1}", "{1: 1}", "{#61: 1}", "{null: 1}", "{@1: 1}", "{[]: 1}", "{{}: 1}", "{: 1}", "{'a: 1}", "{a': 1}", "{''a': 1}", "{'a'': 1}",
	} {
		refusesWithin(t, s)
	}
}

func TestNumbersThatAreNone(t *testing.T) {
	for _, s := range []string{
		"00", "01", "-01", "-00", "-0", "-0.0", "0.0", "0.00", "1.0", "1.50", "-1.50", "100.0", "1.000000000000000000", "10.0", "0.10", "00.5", "01.5", "-00.5",
		"+1", "+0", "+0.5", "--1", "-", "-a", "-.5", ".5", "1.", "0.", "-1.", ".", "..", "1..5", "1.2.3", "1-2", "1-", "1e3", "1E3", "1e-3", "0x10", "0b1", "0o7", "1_000", "1,5", "1a", "1f", "²", "١",
		"9223372036854775808", "-9223372036854775809", "9.223372036854775808", "-9.223372036854775809", "922337203685477580.8", "-922337203685477580.9", "18446744073709551616", "18446744073709551617", "92233720368547758070", "0.0000000000000000001", "-0.0000000000000000001", "1.0000000000000000001", "0.1000000000000000000", "10.123456789012345678",
		rep("9", 1000), "0." + rep("1", 1000), "0." + rep("0", 1000), rep("0", 1000), "-" + rep("1", 1000), rep("-", 1000), rep(".", 1000), "1" + rep("0", 19), "- 1", "null1", "1null", "1'", "1#", "1@", "@", "1[", "1{",
	} {
		refusesWithin(t, s)
	}
}

func TestEveryFewSignsOfANumber(t *testing.T) {
	s := make([]byte, 0, 7)
	var each func()
	each = func() {
		textAsTheChapter(t, string(s))
		textAsTheChapter(t, "@"+string(s))
		if len(s) == cap(s) {
			return
		}
		for _, x := range []byte("-.019") {
			s = append(s, x)
			each()
			s = s[:len(s)-1]
		}
	}
	each()
}

// refusesText is refusesWithin of a text's inside, and of it as a name.
func refusesText(t *testing.T, inside string) {
	t.Helper()
	refusesWithin(t, "'"+inside+"'")
	refuses(t, "{'"+inside+"': 1}")
	refuses(t, "{'!': 1, '"+inside+"': 1}")
}

func TestTextsThatAreNone(t *testing.T) {
	for x := range 256 {
		digits := fmt.Sprintf("%02x", x)
		// What stands for itself is not written by its digits.
		if 0x20 <= x && x <= 0x7e && x != 0x5c {
			for _, s := range []string{`\` + digits, `a\` + digits, `\` + digits + "a", `\00\` + digits, `\` + digits + `\` + digits} {
				refusesText(t, s)
			}
		} else {
			// What does not is written by nothing else.
			for _, s := range []string{one(x), "a" + one(x), one(x) + "a", `\00` + one(x), "b" + one(x) + "''"} {
				refusesText(t, s)
			}
		}
		if great := strings.ToUpper(digits); great != digits {
			refusesText(t, `\`+great)
			refusesText(t, `a\`+great+"b")
			refusesText(t, `\`+great[:1]+digits[1:]+`\`+digits[:1]+great[1:])
		}
		// One digit, then what is none.
		if !strings.Contains("0123456789abcdef'", one(x)) {
			refusesText(t, `\0`+one(x))
			refusesText(t, `\`+one(x)+"0")
			refusesText(t, `\8`+one(x)+"0")
		}
	}
	for _, s := range []string{"'", "a'", "'a", "a'b", "'''", "a'''b", `\`, `\'`, `\''`, `\\`, `\n`, `\x00`, `\u0000`, `\0`, `\00\`, `\00\0`, `\5`, `\5c\`, `\27`, `\27\27`, `\000\0`, `\ 0`, `\+1`, `\-1`, `\0x`, `\0_`, "é", "日", "\x00", "\n", "\t", "\x7f", "a\nb"} {
		refusesText(t, s)
	}
	for _, s := range []string{"'", "'a", "'''", "'a''", "'\\", "'\\0", "'\\00", "'\\5c", "a'", "'a'b'", "\"a\"", "\"\"", "`a`", "'a\"", "'a'''b'", "'a' 'b'", "'a'#", "'a'1", "’a’"} {
		refusesWithin(t, s)
	}
}

func TestBlobsThatAreNone(t *testing.T) {
	for x := range 256 {
		digits := fmt.Sprintf("%02x", x)
		if great := strings.ToUpper(digits); great != digits {
			for _, s := range []string{great, great[:1] + digits[1:], digits[:1] + great[1:], "00" + great, great + "00", digits + great} {
				if s != digits && s != digits+digits {
					textAsTheChapter(t, "#"+s)
				}
			}
			refusesWithin(t, "#"+great)
			refusesWithin(t, "#00"+great)
			refusesWithin(t, "#"+great+"00")
		}
		if !strings.Contains("0123456789abcdef", one(x)) {
			for _, s := range []string{one(x) + "0", "0" + one(x), "000" + one(x), "00" + one(x) + "0", "0" + one(x) + "00"} {
				refusesWithin(t, "#"+s)
			}
		}
	}
	for _, s := range []string{"#0", "#000", "#00000", "#f", "#fff", "##", "##00", "#00#", "#00#00", "#'61'", "#''", "#-1", "#+1", "#0x00", "#00.", "#g0", "#0g", "#\\00", "#00 ", "#00-", "#@1", "x'00'", "00#"} {
		refusesWithin(t, s)
	}
}

func TestNamesThatAreNone(t *testing.T) {
	for _, s := range []string{
		"{'': 1}", "{'': 1, 'a': 1}", "{'a': 1, '': 1}", "{'b': 1, 'a': 1}", "{'a': 1, 'a': 1}", "{'a': 1, 'a': 2}", "{'a': 1, 'b': 1, 'a': 1}", "{'a': 1, 'b': 1, 'b': 1}", "{'a': 1, 'c': 1, 'b': 1}", "{'aa': 1, 'a': 1}", "{'a': 1, 'A': 1}", `{'a': 1, '\00': 1}`, `{'\ff': 1, 'a': 1}`, `{'\ff': 1, '\fe': 1}`, `{'\5c': 1, '[': 1}`, "{'(': 1, '''': 1}", "{'''': 1, '&': 1}", `{'\80': 1, '\7f': 1}`,
		"{'" + rep("n", 41) + "': 1}", "{'" + rep("''", 41) + "': 1}", "{'" + rep(`\00`, 41) + "': 1}", "{'a': 1, '" + rep("n", 41) + "': 1}",
	} {
		refusesWithin(t, s)
	}
	// Names are in the order of their bytes, not of what is written for them.
	for x := range 255 {
		names := []string{one(x), one(x + 1)}
		both(t, "{'"+signOf(x)+"': 1, '"+signOf(x+1)+"': 2}", api.Value{Kind: api.Struct, Names: names, Kids: []api.Value{num(1), num(2)}})
		refusesWithin(t, "{'"+signOf(x+1)+"': 1, '"+signOf(x)+"': 2}")
		refusesWithin(t, "{'"+signOf(x)+"': 1, '"+signOf(x)+"': 2}")
	}
	both(t, "{'"+rep("''", 40)+"': 1}", under(rep("'", 40), num(1)))
	both(t, "{'"+rep(`\00`, 40)+"': 1}", under(rep("\x00", 40), num(1)))
}

// What Encode refuses is no value of a text, whichever error it is.
func TestValuesThatEncodeRefuses(t *testing.T) {
	for _, f := range writtenFaults() {
		refusesWithin(t, chapterText(f.v))
	}
	for _, v := range []api.Value{list(nested(null(), api.MaxDeep-1)), under("a", nested(list(), api.MaxDeep-1)), list(sized(api.MaxBytes, "x")), under("a", sized(api.MaxBytes-2, "\x00"))} {
		refuses(t, chapterText(v))
	}
}

// How deep and how many, step by step.
func TestDepths(t *testing.T) {
	for n := 1; n < 40; n++ {
		for _, v := range []api.Value{nested(list(), n-1), nested(record(""), n-1), nested(num(1), n-1)} {
			s := chapterText(v)
			if n <= api.MaxDeep {
				both(t, s, v)
			} else {
				refuses(t, s)
				prints(t, v, "", api.ErrDeep)
			}
		}
		textAsTheChapter(t, rep("[", n)+rep("]", n))
		textAsTheChapter(t, rep("[", n)+"1"+rep("]", n))
		textAsTheChapter(t, rep("{'a': ", n)+"1"+rep("}", n))
		textAsTheChapter(t, rep("[", n)+rep("]", n+1))
		textAsTheChapter(t, rep("[", n+1)+rep("]", n))
	}
}

func TestCounts(t *testing.T) {
	for n := 195; n < 205; n++ {
		for _, s := range []string{"[" + rep("1, ", n-1) + "1]", chapterText(wide(n)), chapterText(list(under("a", list(many(n, list())...))))} {
			textAsTheChapter(t, s)
			if n > api.MaxFields {
				refuses(t, s)
			} else if _, e := Parse(s); e != api.OK {
				t.Errorf("Parse(%s): %v", cut(s), e)
			}
		}
	}
	for n := 1<<14 - 3; n < 1<<14+3; n++ {
		for _, v := range []api.Value{letters(n), blob(rep("\x00", n)), text(rep("'", n)), text(rep("\xff", n)), list(letters(n))} {
			textAsTheChapter(t, chapterText(v))
			valueAsTheChapter(t, v)
		}
	}
	for n := api.MaxBytes - 3; n < api.MaxBytes+4; n++ {
		v := sized(n, "x")
		textAsTheChapter(t, chapterText(v))
		valueAsTheChapter(t, v)
		if b, e := codec.Encode(v); e == api.OK != (n <= api.MaxBytes) || e == api.OK && len(b) != n {
			t.Fatalf("sized(%d) has %d bytes, %v", n, len(b), e)
		}
	}
}

// W1: far too deep, far too long, far too many.
func TestGreatTexts(t *testing.T) {
	for _, n := range []int{1 << 16, 1 << 18, 1<<19 - 1, 1 << 19, 1<<19 + 1, 1 << 22} {
		for _, s := range []string{"[", "]", "{", "{'a': ", "[1, ", "1", "-", ".", "0", "@", "'", "''", `'\00`, `\`, "#", "00", "#00", "a", " ", ", ", "null", "\x00", "\xff", "[], ", "{}, ", "{'a': 1, "} {
			refuses(t, rep(s, n/len(s)+1-n/len(s)%2))
			refuses(t, "["+rep(s, n/len(s)))
			refuses(t, "'"+rep(s, n/len(s))+"x")
		}
		for _, s := range []string{"a", "''", `\00`, `\ff`} {
			refuses(t, "'"+rep(s, n)+"'")
			refuses(t, "{'"+rep(s, n)+"': 1}")
			refuses(t, "['"+rep(s, n)+"']")
		}
		refuses(t, "#"+rep("00", 4*n))
		refuses(t, "0."+rep("0", n)+"1")
		refuses(t, "-"+rep("9", n))
		refuses(t, "@1"+rep("0", n))
		refuses(t, "["+rep("1, ", n)+"1]")
		refuses(t, rep("[", n)+rep("]", n))
		refuses(t, rep("{'a': ", n)+"1"+rep("}", n))
	}
}

// W1: a text of which the value in memory would be many times greater is refused without it.
func TestGreatTextsTakeLittleMemory(t *testing.T) {
	long := rep("0, ", 1<<22)
	fields := rep("'': 0, ", 1<<21)
	var before, behind runtime.MemStats
	runtime.ReadMemStats(&before)
	for range 4 {
		refuses(t, "["+long+"0]")
		refuses(t, "[["+long+"0]]")
		refuses(t, "{"+fields+"'': 0}")
	}
	runtime.ReadMemStats(&behind)
	// The texts themselves are some 2^24 bytes each.
	if grown := int(behind.TotalAlloc) - int(before.TotalAlloc); grown > 1<<28 {
		t.Errorf("%d bytes take %d of memory", len(long), grown)
	}
}

// W1: what is far too deep is refused where it is too deep, not gone through to its end.
func TestDeepTextsTakeLittleStack(t *testing.T) {
	// Beyond this the whole run ends.
	defer debug.SetMaxStack(debug.SetMaxStack(1 << 20))
	for _, s := range []string{"[", "{'a': ", "[{'a': ", "[1, ", "[[], "} {
		refuses(t, rep(s, 1<<19/len(s)))
	}
}

// Many texts against the chapter

func TestEveryFewBytes(t *testing.T) {
	for a := range 256 {
		textAsTheChapter(t, one(a))
		for b := range 256 {
			textAsTheChapter(t, one(a)+one(b))
			textAsTheChapter(t, "'"+one(a)+one(b)+"'")
			textAsTheChapter(t, `'\`+one(a)+one(b)+"'")
			textAsTheChapter(t, "#"+one(a)+one(b))
			textAsTheChapter(t, "["+one(a)+one(b)+"]")
			textAsTheChapter(t, "{'a'"+one(a)+one(b)+"1}")
			textAsTheChapter(t, "[1"+one(a)+one(b)+"1]")
		}
	}
}

func TestEveryRowOfSomeWords(t *testing.T) {
	for _, most := range []struct {
		n     int
		words []string
	}{
		{6, []string{"1", "[", "]", ", ", "{", "}", "'a'", ": "}},
		{5, []string{"null", "'", "''", `\`, "00", "5c", "27", "a", "#", "-", ".", "@"}},
		{5, []string{"[", "]", "{", "}", ",", " ", "'b': ", "'a': ", "1", ", "}},
	} {
		var each func(s string, n int)
		each = func(s string, n int) {
			textAsTheChapter(t, s)
			if n == 0 {
				return
			}
			for _, w := range most.words {
				each(s+w, n-1)
			}
		}
		each("", most.n)
	}
}

// maker makes values out of bytes: the same of the same bytes.
type maker struct {
	from []byte
	ill  bool // now and then what is no value
}

func (m *maker) next() int {
	if len(m.from) == 0 {
		return 0
	}
	b := m.from[0]
	m.from = m.from[1:]
	return int(b)
}

// pick is one of these.
func pick[T any](m *maker, of ...T) T { return of[m.next()%len(of)] }

func (m *maker) name() string {
	if m.ill && m.next()%16 == 0 {
		return pick(m, "", rep("n", 40), rep("n", 41))
	}
	return pick(m, "a", "b", "ab", "'", `\`, "\x00", "\xff", "it's", "é", "\x1f", " ", "~", "\x7f", "''", `\27`, "', '", one(m.next()), one(m.next())+one(m.next()))
}

func (m *maker) number() int {
	n := pick(m, 0, 1, -1, 2, 9, 10, 25, -25, 100, -100, 99, math.MaxInt, math.MinInt, 1<<53, 1<<53+1, 1e18, -1e18, m.next()-128, m.next()<<8+m.next())
	if m.next()%8 == 0 {
		n += m.next() - 128
	}
	return n
}

func (m *maker) value(deep int) api.Value {
	v := api.Value{Kind: m.next()%9 + 1}
	switch v.Kind {
	case api.Bool:
		v.Int = m.next() % 2
	case api.Int:
		v.Int = m.number()
	case api.Decimal:
		v.Int, v.Scale = m.number(), m.next()%18+1
		if m.ill && m.next()%8 == 0 {
			v.Scale = m.next() % 30
		}
		if !m.ill && v.Int%10 == 0 {
			v.Int++
		}
	case api.Time:
		v.Int = m.next()<<16 + m.next()
		if m.ill {
			v.Int = m.number()
		}
	case api.Text, api.Blob:
		v.Text = rep(m.name(), pick(m, 0, 1, 1, 2, 20))
	case api.List, api.Struct:
		m.kids(&v, deep)
	}
	return v
}

func (m *maker) kids(v *api.Value, deep int) {
	n := m.next() % 5
	if deep >= 6 && !m.ill || deep > 20 {
		n = 0
	}
	for range n {
		v.Kids = append(v.Kids, m.value(deep+1))
		if v.Kind == api.Struct {
			v.Names = append(v.Names, m.name())
		}
	}
	if m.ill && v.Kind == api.List && m.next()%24 == 0 {
		v.Kids = append(v.Kids, nested(null(), m.next()%18))
	}
	if v.Kind == api.Struct && !(m.ill && m.next()%4 == 0) {
		slices.Sort(v.Names)
		v.Names = slices.Compact(v.Names)
		v.Kids = v.Kids[:len(v.Names)]
	}
}

func bytesOf(r *rand.Rand, n int) []byte {
	b := make([]byte, n)
	r.Read(b)
	return b
}

// spoilt is a text of which some bytes are others, missing or too many.
func spoilt(r *rand.Rand, s string) string {
	b := []byte(s)
	some := "'\\ ,:[]{}#@-.0123456789abcdefnultrs\"A\n\x00\xff"
	for range 1 + r.Intn(2) {
		at := r.Intn(len(b) + 1)
		x := some[r.Intn(len(some))]
		switch r.Intn(5) {
		case 0:
			b = b[:at]
		case 1:
			b = slices.Insert(b, at, x)
		case 2:
			b = slices.Delete(b, at, min(at+1, len(b)))
		case 3:
			if at < len(b) {
				b[at] = x
			}
		case 4:
			if at+1 < len(b) {
				b[at], b[at+1] = b[at+1], b[at]
			}
		}
	}
	return string(b)
}

func TestManyAsTheChapter(t *testing.T) {
	r := rand.New(rand.NewSource(9))
	taken, refused := 0, 0
	for range 30000 {
		m := &maker{from: bytesOf(r, 80), ill: r.Intn(2) == 0}
		v := m.value(1)
		valueAsTheChapter(t, v)
		s := chapterText(v)
		textAsTheChapter(t, s)
		for range 3 {
			s := spoilt(r, s)
			textAsTheChapter(t, s)
			if _, e := Parse(s); e == api.OK {
				taken++
			} else {
				refused++
			}
		}
	}
	if taken < 1000 || refused < 1000 {
		t.Errorf("%d were taken, %d refused", taken, refused)
	}
}

// P9.2

func TestParseOfPrintIsTheValue(t *testing.T) {
	for _, v := range append(ordinary(), greatest()...) {
		s, e := Print(v)
		if e != api.OK {
			t.Fatalf("Print(%s): %v", short(v), e)
		}
		if got, e := Parse(s); e != api.OK || !value.Same(got, v) || !alike(got, v) {
			t.Errorf("Parse of Print of %s = %s, %v", short(v), short(got), e)
		}
	}
	r := rand.New(rand.NewSource(92))
	for range 20000 {
		m := &maker{from: bytesOf(r, 120)}
		v := m.value(1)
		s, e := Print(v)
		got, f := Parse(s)
		if e != api.OK || f != api.OK || !value.Same(got, v) {
			t.Fatalf("Parse of Print of %s = %s, %v, %v", short(v), short(got), e, f)
		}
	}
}

// A value has one text: of all that Parse takes, Print makes just this.
func TestPrintOfParseIsTheText(t *testing.T) {
	r := rand.New(rand.NewSource(93))
	taken := 0
	for _, v := range append(ordinary(), greatest()...) {
		whole := chapterText(v)
		if len(whole) > 1<<13 {
			continue
		}
		for range 100 {
			s := spoilt(r, whole)
			got, e := Parse(s)
			if e != api.OK {
				continue
			}
			taken++
			prints(t, got, s, api.OK)
		}
	}
	if taken < 1000 {
		t.Errorf("only %d were taken", taken)
	}
}

// Values that are not Same have unlike texts.
func TestNoTwoOfOneText(t *testing.T) {
	of := map[string]api.Value{}
	r := rand.New(rand.NewSource(94))
	all := append(ordinary(), greatest()...)
	for range 5000 {
		m := &maker{from: bytesOf(r, 30)}
		all = append(all, m.value(1))
	}
	for _, v := range all {
		s, _ := Print(v)
		if w, has := of[s]; has && !value.Same(v, w) {
			t.Fatalf("%s is the text of %s and of %s", cut(s), short(v), short(w))
		}
		of[s] = v
	}
}

// A field that its Kind does not name has nothing, and what is refused has nothing at all.
func TestAnswersHaveNothingElse(t *testing.T) {
	for _, v := range append(ordinary(), greatest()...) {
		got, e := Parse(chapterText(v))
		if e != api.OK || value.Check(got) != api.OK {
			t.Fatalf("Parse of the text of %s: %s, %v", short(v), short(got), e)
		}
		if v.Kind != api.Struct && len(got.Names) != 0 || len(got.Kids) != len(v.Kids) {
			t.Errorf("Parse of the text of %s has more: %s", short(v), short(got))
		}
	}
}

// W6, W7: what is handed in and what is answered

// spared is values in memory of their own, each list of them with spare room behind its end.
func spared(l []api.Value) []api.Value {
	out := make([]api.Value, len(l)+2)
	for i, v := range l {
		names := make([]string, len(v.Names)+2)
		copy(names, v.Names)
		names[len(v.Names)] = "spare"
		v.Names, v.Kids = names[:len(v.Names)], spared(v.Kids)
		out[i] = v
	}
	out[len(l)] = text("spare")
	return out[:len(l)]
}

// whole is all of a list as a text, spare room too.
func whole(l []api.Value) string {
	var out strings.Builder
	fmt.Fprintf(&out, "%d[", len(l))
	for _, v := range l[:cap(l)] {
		fmt.Fprintf(&out, "%d %d %d %q %q %s", v.Kind, v.Int, v.Scale, v.Text, v.Names[:cap(v.Names)], whole(v.Kids))
	}
	return out.String() + "]"
}

// turn makes all memory of a list another one, spare room too.
func turn(l []api.Value) {
	l = l[:cap(l)]
	for i, v := range l {
		for j := range v.Names[:cap(v.Names)] {
			v.Names[:cap(v.Names)][j] += "turned"
		}
		turn(v.Kids)
		l[i] = api.Value{Kind: -v.Kind, Int: ^v.Int, Text: v.Text + "turned"}
	}
}

// samples are what Print is given here, values and others.
func samples() []api.Value {
	shared := list(num(1), list(text("xx"), under("yy", blob("zz"))))
	out := []api.Value{record("a b c", shared, shared, list(shared, shared)), list(shared, shared), wide(20), nested(text("in"), 15), nested(null(), 16), record("b a", shared, shared), list(shared, api.Value{}), {}, list(many(5, letters(1<<14))...)}
	return append(out, ordinary()[:150]...)
}

// rows are texts that Parse takes or refuses.
func rows() []string {
	var out []string
	for _, v := range samples() {
		if v.Kind == 0 || len(v.Kids) == 2 && v.Kids[1].Kind == 0 {
			continue
		}
		s := chapterText(v)
		out = append(out, s, s+" ", s[:len(s)-1], "["+s+", "+s+"]")
	}
	return append(out, "", "[", "'a", "#0", "@x", "{'b': 1, 'a': 1}", "1.0", "nul")
}

func TestHandedInIsNotChanged(t *testing.T) {
	for _, v := range samples() {
		given := spared([]api.Value{v})
		before := whole(given)
		s, e := Print(given[0])
		if whole(given) != before {
			t.Errorf("Print(%s) changes it", short(v))
		}
		prints(t, given[0], s, e)
	}
}

func TestHandedInIsNotKept(t *testing.T) {
	for _, v := range samples() {
		given := spared([]api.Value{v})
		s, e := Print(given[0])
		want := strings.Clone(s)
		turn(given)
		if s != want {
			t.Errorf("Print(%s): the answer shares memory with it", short(v))
		}
		prints(t, v, want, e)
	}
}

// within tells whether a text stands in the memory of another one.
func within(s, all string) bool {
	if s == "" || all == "" {
		return false
	}
	at, from := uintptr(unsafe.Pointer(unsafe.StringData(s))), uintptr(unsafe.Pointer(unsafe.StringData(all)))
	return from <= at && at < from+uintptr(len(all))
}

// eachText goes through all texts and names of a value.
func eachText(v api.Value, do func(s string)) {
	do(v.Text)
	for _, name := range v.Names {
		do(name)
	}
	for _, kid := range v.Kids {
		eachText(kid, do)
	}
}

func TestTextsAreNewMemory(t *testing.T) {
	for _, s := range rows() {
		v, e := Parse(s)
		eachText(v, func(part string) {
			if within(part, s) {
				t.Errorf("Parse(%s): %q stands in it", cut(s), part)
			}
		})
		if e != api.OK {
			continue
		}
		again, _ := Print(v)
		if within(again, s) {
			t.Errorf("Print of Parse of %s is the text itself", cut(s))
		}
		third, _ := Print(v)
		if within(third, again) {
			t.Errorf("Print(%s) twice is one memory", short(v))
		}
		eachText(v, func(part string) {
			if within(again, part) || within(part, again) {
				t.Errorf("Print(%s) shares memory with %q", short(v), part)
			}
		})
	}
}

// places counts where each element of each list stands, spare room too.
func places(l []api.Value, count map[any]int) {
	l = l[:cap(l)]
	for i, v := range l {
		count[&l[i]]++
		names := v.Names[:cap(v.Names)]
		for j := range names {
			count[&names[j]]++
		}
		places(v.Kids, count)
	}
}

func TestListsAreNewMemory(t *testing.T) {
	for _, s := range rows() {
		first, _ := Parse(s)
		second, _ := Parse(s)
		count := map[any]int{}
		places([]api.Value{first}, count)
		places([]api.Value{second}, count)
		for _, n := range count {
			if n != 1 {
				t.Fatalf("Parse(%s): one place is in %d lists that are answered", cut(s), n)
			}
		}
		turn([]api.Value{second})
		textAsTheChapter(t, s)
	}
}

func TestAnswersStay(t *testing.T) {
	var values [][]api.Value
	var said, made, copies []string
	for _, s := range rows() {
		v, _ := Parse(s)
		values, said = append(values, []api.Value{v}), append(said, whole([]api.Value{v}))
	}
	for _, l := range values {
		s, _ := Print(l[0])
		made, copies = append(made, s), append(copies, strings.Clone(s))
		Parse(s)
	}
	for i, l := range values {
		if whole(l) != said[i] {
			t.Fatalf("the answer %s became another one", said[i])
		}
	}
	if !slices.Equal(made, copies) {
		t.Error("texts that were answered became others")
	}
}

// W2: calls side by side answer as they do alone.
func TestSideBySide(t *testing.T) {
	all := append(ordinary(), greatest()[:12]...)
	var group sync.WaitGroup
	for range 8 {
		group.Go(func() {
			for _, v := range all {
				valueAsTheChapter(t, v)
				textAsTheChapter(t, chapterText(v))
				refuses(t, chapterText(v)+" ")
			}
		})
	}
	group.Wait()
}

// W1: whatever bytes come, every call ends and answers what the chapter says.
func FuzzAnyBytes(f *testing.F) {
	for _, s := range rows() {
		if len(s) < 1000 {
			f.Add([]byte(s))
		}
	}
	f.Fuzz(func(t *testing.T, b []byte) {
		s := string(b)
		textAsTheChapter(t, s)
		// Any bytes within these reach what a fuzzer hardly finds.
		for _, around := range [][2]string{{"'", "'"}, {`'\`, "'"}, {"#", ""}, {"@", ""}, {"-", ""}, {"1.", ""}, {"[", "]"}, {"[1, ", "]"}, {"{'a': ", "}"}, {"{'", "': 1}"}, {"{'a': 1, ", "}"}, {rep("[", 15), rep("]", 15)}} {
			textAsTheChapter(t, around[0]+s+around[1])
		}
		m := &maker{from: b, ill: len(b)%2 == 0}
		v := m.value(1)
		valueAsTheChapter(t, v)
		textAsTheChapter(t, chapterText(v))
	})
}
