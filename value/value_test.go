package value

import (
	"cmp"
	"fmt"
	"math"
	"math/big"
	"math/rand"
	"reflect"
	"slices"
	"strings"
	"sync"
	"testing"

	"scrivener/api"
)

func null() api.Value               { return api.Value{Kind: api.Null} }
func truth(n int) api.Value         { return api.Value{Kind: api.Bool, Int: n} }
func num(n int) api.Value           { return api.Value{Kind: api.Int, Int: n} }
func dec(n, s int) api.Value        { return api.Value{Kind: api.Decimal, Int: n, Scale: s} }
func clock(n int) api.Value         { return api.Value{Kind: api.Time, Int: n} }
func text(s string) api.Value       { return api.Value{Kind: api.Text, Text: s} }
func blob(s string) api.Value       { return api.Value{Kind: api.Blob, Text: s} }
func list(l ...api.Value) api.Value { return api.Value{Kind: api.List, Kids: l} }

// record is a struct with these names, parted by blanks.
func record(names string, kids ...api.Value) api.Value {
	return api.Value{Kind: api.Struct, Names: strings.Fields(names), Kids: kids}
}

// under is a struct with one field.
func under(name string, v api.Value) api.Value {
	return api.Value{Kind: api.Struct, Names: []string{name}, Kids: []api.Value{v}}
}

// many is n kids, all Null.
func many(n int) []api.Value { return slices.Repeat([]api.Value{null()}, n) }

// names are n names that rise.
func names(n int) []string {
	out := make([]string, n)
	for i := range out {
		out[i] = fmt.Sprintf("n%04d", i)
	}
	return out
}

// wide is a struct of n fields.
func wide(n int) api.Value { return api.Value{Kind: api.Struct, Names: names(n), Kids: many(n)} }

// nested is v within n lists or structs, by turns.
func nested(v api.Value, n int) api.Value {
	for i := range n {
		if i%2 == 0 {
			v = list(v)
		} else {
			v = under("in", v)
		}
	}
	return v
}

// loop is a list that is its own first kid.
func loop() api.Value {
	kids := make([]api.Value, 2)
	kids[0] = api.Value{Kind: api.List, Kids: kids}
	return kids[0]
}

// short is a value for a message, cut where it is long.
func short(v api.Value) string {
	if Check(v) == api.ErrDeep {
		return fmt.Sprintf("a value of kind %d that is too deep", v.Kind)
	}
	s := fmt.Sprintf("%+v", v)
	return s[:min(len(s), 300)]
}

func checks(t *testing.T, v api.Value, want api.Errno) {
	t.Helper()
	if e := Check(v); e != want {
		t.Errorf("Check(%s) = %v, want %v", short(v), e, want)
	}
}

// ordinary are values of each kind, each unlike all others, in their order.
func ordinary() []api.Value {
	return []api.Value{
		null(),
		truth(0), truth(1),
		num(math.MinInt), num(math.MinInt + 1), dec(math.MinInt, 1), num(-922337203685477580), num(-1000), num(-11), num(-10), dec(-99, 1),
		dec(math.MinInt, 18), dec(-11, 1), num(-1), dec(-99, 2), dec(-11, 2), dec(-1, 1), dec(-1, 17), dec(-1, 18),
		num(0),
		dec(1, 18), dec(1, 17), dec(1, 1), dec(11, 2), dec(99, 2), num(1), dec(11, 1), num(2), dec(25, 1), num(3), dec(math.MaxInt, 18),
		num(10), num(11), num(1000), num(922337203685477580), dec(math.MaxInt, 1), num(math.MaxInt - 1), num(math.MaxInt),
		clock(0), clock(1), clock(1<<53 - 1), clock(1 << 53),
		text(""), text("\x00"), text("\x00\x00"), text("\x00a"), text("A"), text("a"), text("a\x00"), text("aa"), text("ab"), text("b"), text("\x7f"), text("\x80"), text("é"), text("\xff"), text("\xff\x00"),
		blob(""), blob("\x00"), blob("a"), blob("aa"), blob("b"), blob("\xff"),
		list(), list(null()), list(null(), null()), list(truth(0)), list(num(1)), list(num(1), num(1)), list(num(1), text("")), list(dec(11, 1)), list(num(2)), list(text("z")),
		list(list()), list(list(), null()), list(list(null())), list(record("")), list(under("a", null())),
		record(""), under("A", num(9)), under("a", null()), record("a aa", null(), null()), record("a b", null(), num(1)), record("a b", null(), num(2)), record("a b c", null(), num(2), null()), record("a c", null(), num(0)),
		under("a", num(1)), record("a b", num(1), null()), under("a", list()), under("a", record("")), under("aa", null()), under("b", null()), under("b", num(-5)), under("\xff", null()),
	}
}

// greatest are values at the edges.
func greatest() []api.Value {
	return []api.Value{
		text(strings.Repeat("x", 1<<14)), blob(strings.Repeat("\xff", 1<<14)), list(many(api.MaxFields)...), wide(api.MaxFields),
		nested(null(), api.MaxDeep-1), nested(text(strings.Repeat("y", 1<<14)), api.MaxDeep-1), under(strings.Repeat("n", api.MaxName), num(1)),
		{Kind: api.List, Names: []string{}, Kids: []api.Value{}}, {Kind: api.Null, Names: []string{}, Kids: []api.Value{}},
	}
}

// fault is what is no value, and Check's error of it.
type fault struct {
	v api.Value
	e api.Errno
}

// faults are faults of each kind that stand at their top.
func faults() []fault {
	long := strings.Repeat("x", 1<<14+1)
	return []fault{
		{api.Value{}, api.ErrForm}, {api.Value{Kind: -1}, api.ErrForm}, {api.Value{Kind: 10}, api.ErrForm}, {api.Value{Kind: 3 + 1<<62}, api.ErrForm}, {api.Value{Kind: math.MinInt}, api.ErrForm}, {api.Value{Kind: math.MaxInt}, api.ErrForm},
		{truth(2), api.ErrForm}, {truth(-1), api.ErrForm}, {dec(1, 0), api.ErrForm}, {dec(1, 19), api.ErrForm}, {dec(20, 1), api.ErrForm}, {clock(-1), api.ErrForm}, {clock(1<<53 + 1), api.ErrForm},
		{api.Value{Kind: api.Null, Text: "x"}, api.ErrForm}, {api.Value{Kind: api.List, Names: []string{"a"}, Kids: many(1)}, api.ErrForm},
		{text(long), api.ErrLong}, {blob(long), api.ErrLong}, {list(many(api.MaxFields + 1)...), api.ErrLong}, {wide(api.MaxFields + 1), api.ErrLong},
		{under("", null()), api.ErrForm}, {under(strings.Repeat("n", api.MaxName+1), null()), api.ErrForm}, {record("b a", null(), null()), api.ErrForm}, {record("a a", null(), null()), api.ErrForm}, {record("a b", null()), api.ErrForm},
	}
}

// P5.1

func TestCheckTakesValues(t *testing.T) {
	for _, v := range append(ordinary(), greatest()...) {
		checks(t, v, api.OK)
	}
}

func TestCheckExample(t *testing.T) {
	checks(t, dec(20, 1), api.ErrForm)
}

func TestCheckRefusesFaults(t *testing.T) {
	for _, f := range faults() {
		checks(t, f.v, f.e)
	}
}

func TestCheckOfKindsThatAreNone(t *testing.T) {
	for _, kind := range []int{0, -1, -2, -9, 10, 11, 12, 15, 16, 17, 19, 25, 64, 65, 255, 256, 257, 1<<32 + 1, 1 << 60, 1<<60 + 1, 1<<61 + 6, 1<<62 + 1, 1<<62 + 9, math.MaxInt, math.MinInt, math.MinInt + 1} {
		for _, v := range ordinary() {
			v.Kind = kind
			checks(t, v, api.ErrForm)
		}
	}
}

// fieldsOf are the fields that may have something, by kinds.
var fieldsOf = map[int][]string{
	api.Null: {}, api.Bool: {"Int"}, api.Int: {"Int"}, api.Decimal: {"Int", "Scale"}, api.Time: {"Int"},
	api.Text: {"Text"}, api.Blob: {"Text"}, api.List: {"Kids"}, api.Struct: {"Names", "Kids"},
}

// fillings are what to put into a field where nothing may be.
var fillings = map[string][]any{
	"Int": {1, -1, math.MaxInt, math.MinInt, 1 << 32}, "Scale": {1, -1, 18, math.MaxInt, math.MinInt, 1 << 32}, "Text": {"x", "\x00", strings.Repeat("x", 1<<14+1)},
	"Names": {[]string{"a"}, []string{""}}, "Kids": {many(1), make([]api.Value, 1), many(api.MaxFields + 1)},
}

func TestCheckOfFieldsThatMayHaveNothing(t *testing.T) {
	for _, v := range append(ordinary(), greatest()...) {
		for field, fills := range fillings {
			if slices.Contains(fieldsOf[v.Kind], field) {
				continue
			}
			for _, x := range fills {
				bad := v
				reflect.ValueOf(&bad).Elem().FieldByName(field).Set(reflect.ValueOf(x))
				checks(t, bad, api.ErrForm)
				checks(t, list(null(), bad), api.ErrForm)
			}
		}
	}
}

func TestCheckBool(t *testing.T) {
	for _, n := range []int{math.MinInt, -256, -2, -1, 0, 1, 2, 3, 256, 1 << 32, math.MaxInt} {
		want := api.ErrForm
		if n == 0 || n == 1 {
			want = api.OK
		}
		checks(t, truth(n), want)
	}
}

func TestCheckInt(t *testing.T) {
	for _, n := range []int{math.MinInt, math.MinInt + 1, -10, -1, 0, 1, 10, 20, 1 << 53, 1<<53 + 1, math.MaxInt} {
		checks(t, num(n), api.OK)
	}
}

func TestCheckDecimal(t *testing.T) {
	for _, n := range []int{math.MinInt, math.MinInt + 8, -100, -11, -10, -9, -5, -1, 0, 1, 2, 5, 9, 10, 11, 15, 20, 100, 101, 1000000000000000000, math.MaxInt - 7, math.MaxInt} {
		for _, scale := range []int{math.MinInt, -18, -1, 0, 1, 2, 9, 17, 18, 19, 20, 256 + 1, 1<<32 + 1, math.MaxInt} {
			tenfold := new(big.Int).Rem(big.NewInt(int64(n)), big.NewInt(10)).Sign() == 0
			want := api.OK
			if tenfold || scale < 1 || scale > 18 {
				want = api.ErrForm
			}
			checks(t, dec(n, scale), want)
		}
	}
}

func TestCheckTime(t *testing.T) {
	for _, n := range []int{0, 1, 10, 1 << 52, 1<<53 - 1, 1 << 53} {
		checks(t, clock(n), api.OK)
	}
	for _, n := range []int{-1, -1 << 53, math.MinInt, 1<<53 + 1, 1 << 54, math.MaxInt} {
		checks(t, clock(n), api.ErrForm)
	}
}

func TestCheckBytes(t *testing.T) {
	for _, one := range []string{"a", "\x00", "\xff"} {
		for _, n := range []int{0, 1, 1<<14 - 1, 1 << 14} {
			checks(t, text(strings.Repeat(one, n)), api.OK)
			checks(t, blob(strings.Repeat(one, n)), api.OK)
		}
		for _, n := range []int{1<<14 + 1, 1 << 15, 1 << 20} {
			checks(t, text(strings.Repeat(one, n)), api.ErrLong)
			checks(t, blob(strings.Repeat(one, n)), api.ErrLong)
		}
	}
	// Bytes are counted, not runes.
	checks(t, text(strings.Repeat("é", 1<<13)), api.OK)
	checks(t, text(strings.Repeat("é", 1<<13+1)), api.ErrLong)
}

func TestCheckKids(t *testing.T) {
	for _, n := range []int{0, 1, 2, 16, 17, api.MaxFields - 1, api.MaxFields} {
		checks(t, list(many(n)...), api.OK)
		checks(t, wide(n), api.OK)
	}
	for _, n := range []int{api.MaxFields + 1, api.MaxFields + 2, 1 << 16} {
		checks(t, list(many(n)...), api.ErrLong)
		checks(t, wide(n), api.ErrLong)
	}
}

func TestCheckSpareRoomIsNotCounted(t *testing.T) {
	v := wide(api.MaxFields + 9)
	v.Names, v.Kids = v.Names[:api.MaxFields], v.Kids[:api.MaxFields]
	checks(t, v, api.OK)
	checks(t, api.Value{Kind: api.Null, Names: v.Names[:0], Kids: v.Kids[:0]}, api.OK)
}

func TestCheckNamesAndKidsAsMany(t *testing.T) {
	for n := range 5 {
		for k := range 5 {
			want := api.ErrForm
			if n == k {
				want = api.OK
			}
			checks(t, api.Value{Kind: api.Struct, Names: names(n), Kids: many(k)}, want)
		}
	}
	checks(t, api.Value{Kind: api.Struct, Names: names(api.MaxFields + 1), Kids: many(api.MaxFields)}, api.ErrForm)
	checks(t, api.Value{Kind: api.Struct, Names: names(api.MaxFields + 1), Kids: nil}, api.ErrForm)
}

func TestCheckNamesLengths(t *testing.T) {
	for n, want := range map[int]api.Errno{0: api.ErrForm, 1: api.OK, 2: api.OK, api.MaxName - 1: api.OK, api.MaxName: api.OK, api.MaxName + 1: api.ErrForm, 1 << 10: api.ErrForm} {
		name := strings.Repeat("n", n)
		checks(t, under(name, null()), want)
		for _, row := range [][]string{{name, "z"}, {"a", name}, {"a", name, "z"}, {"a", "b", name}} {
			checks(t, api.Value{Kind: api.Struct, Names: row, Kids: many(len(row))}, want)
		}
	}
	checks(t, under(strings.Repeat("é", api.MaxName/2), null()), api.OK)
	checks(t, under(strings.Repeat("é", api.MaxName/2)+"e", null()), api.ErrForm)
}

func TestCheckNamesRise(t *testing.T) {
	rising := []string{"\x00", "\x00\x00", " ", "A", "B", "a", "a\x00", "aB", "aa", "ab", "b", "\x7f", "\x80", "é", "\xff", "\xff\xff"}
	checks(t, api.Value{Kind: api.Struct, Names: rising, Kids: many(len(rising))}, api.OK)
	for i, a := range rising {
		for j, b := range rising {
			want := api.ErrForm
			if i < j {
				want = api.OK
			}
			checks(t, api.Value{Kind: api.Struct, Names: []string{a, b}, Kids: many(2)}, want)
		}
	}
	for at := range len(rising) - 1 {
		turned := slices.Clone(rising)
		turned[at], turned[at+1] = turned[at+1], turned[at]
		checks(t, api.Value{Kind: api.Struct, Names: turned, Kids: many(len(turned))}, api.ErrForm)
		alike := slices.Clone(rising)
		alike[at+1] = alike[at]
		checks(t, api.Value{Kind: api.Struct, Names: alike, Kids: many(len(alike))}, api.ErrForm)
	}
}

func TestCheckDeep(t *testing.T) {
	for n := range api.MaxDeep {
		checks(t, nested(num(1), n), api.OK)
		checks(t, nested(list(), n), api.OK)
		checks(t, nested(record(""), n), api.OK)
	}
	for _, n := range []int{api.MaxDeep, api.MaxDeep + 1, 100, 1 << 16} {
		checks(t, nested(num(1), n), api.ErrDeep)
	}
	checks(t, list(null(), nested(null(), 14), nested(null(), 15), null()), api.ErrDeep)
	checks(t, list(null(), nested(null(), 14), nested(null(), 14), null()), api.OK)
}

func TestCheckDeepIsAheadOfWhatBeginsThere(t *testing.T) {
	for _, f := range faults() {
		checks(t, nested(f.v, api.MaxDeep-1), f.e)
		checks(t, nested(f.v, api.MaxDeep), api.ErrDeep)
		checks(t, nested(list(f.v), api.MaxDeep), api.ErrDeep)
	}
}

func TestCheckOfKidsWithinThemselves(t *testing.T) {
	v := loop()
	checks(t, v, api.ErrDeep)
	checks(t, list(null(), v), api.ErrDeep)
	checks(t, list(api.Value{}, v), api.ErrForm)
	if Compare(v, v) != 0 || Same(v, v) {
		t.Error("a loop is a value")
	}
	if parts, deep := Size(v); parts != 0 || deep != 0 {
		t.Errorf("Size of a loop = %d, %d", parts, deep)
	}
	withs(t, v, "a", null(), api.Value{}, api.ErrDeep)
	withs(t, record(""), "a", v, api.Value{}, api.ErrDeep)
	if got, has := Field(under("a", v), "a"); has || got.Kind != 0 {
		t.Errorf("Field of a loop = %v", has)
	}
}

// What stands first, from the top, kid by kid, counts.
func TestCheckOrderOfKids(t *testing.T) {
	all := append(faults(), fault{nested(null(), 16), api.ErrDeep})
	for _, f := range all {
		for _, g := range all {
			checks(t, list(f.v, g.v), f.e)
			checks(t, list(null(), f.v, g.v), f.e)
			checks(t, record("a b c", list(text("x"), num(1)), f.v, g.v), f.e)
			// The whole of a kid is ahead of the next one, however deep its fault stands.
			if f.e != api.ErrDeep {
				checks(t, list(nested(f.v, 5), g.v), f.e)
				checks(t, record("a b", list(null(), list(f.v)), g.v), f.e)
			}
		}
		checks(t, list(f.v, nested(null(), api.MaxDeep+3)), f.e)
		checks(t, list(nested(null(), api.MaxDeep+3), f.v), api.ErrDeep)
	}
}

// Of one value's own faults the list of the promise tells which counts; all are ahead of its kids'.
func TestCheckOrderWithinOneValue(t *testing.T) {
	bad := []api.Value{{}, text(strings.Repeat("x", 1<<14+1)), under("", null()), nested(null(), 20)}
	long := strings.Repeat("x", 1<<14+1)
	for _, kid := range bad {
		full := slices.Repeat([]api.Value{kid}, api.MaxFields+1)
		checks(t, api.Value{Kind: 0, Kids: full}, api.ErrForm)
		checks(t, api.Value{Kind: 10, Names: names(3), Kids: full}, api.ErrForm)
		checks(t, api.Value{Kind: api.List, Int: 1, Kids: full}, api.ErrForm)
		checks(t, api.Value{Kind: api.List, Names: names(1), Kids: full}, api.ErrForm)
		checks(t, api.Value{Kind: api.Struct, Scale: 1, Names: names(api.MaxFields + 1), Kids: full}, api.ErrForm)
		checks(t, api.Value{Kind: api.Struct, Text: "x", Kids: full}, api.ErrForm)
		checks(t, api.Value{Kind: api.List, Kids: full}, api.ErrLong)
		checks(t, api.Value{Kind: api.Struct, Names: names(api.MaxFields + 1), Kids: full}, api.ErrLong)
		checks(t, api.Value{Kind: api.Struct, Names: names(1), Kids: full}, api.ErrLong)
		checks(t, api.Value{Kind: api.Struct, Kids: full}, api.ErrLong)
		checks(t, api.Value{Kind: api.Struct, Names: make([]string, api.MaxFields+1), Kids: full}, api.ErrLong)
		checks(t, api.Value{Kind: api.Struct, Names: names(1), Kids: []api.Value{kid, kid}}, api.ErrForm)
		checks(t, api.Value{Kind: api.Struct, Names: []string{"b", "a"}, Kids: []api.Value{kid, kid}}, api.ErrForm)
		checks(t, api.Value{Kind: api.Struct, Names: []string{"a", ""}, Kids: []api.Value{kid, kid}}, api.ErrForm)
		checks(t, api.Value{Kind: api.Struct, Names: []string{"a", strings.Repeat("n", 41)}, Kids: []api.Value{kid, kid}}, api.ErrForm)
	}
	checks(t, api.Value{Kind: api.Text, Int: 1, Text: long}, api.ErrForm)
	checks(t, api.Value{Kind: api.Blob, Scale: 1, Text: long}, api.ErrForm)
	checks(t, api.Value{Kind: api.Text, Text: long, Kids: many(1)}, api.ErrForm)
	checks(t, api.Value{Kind: api.Bool, Int: 1, Text: long}, api.ErrForm)
}

// The chapter, clause by clause: what the tests below hold the answers against.

func chapterCheck(v api.Value, deep int) api.Errno {
	if deep == 17 {
		return api.ErrDeep
	}
	may, is := fieldsOf[v.Kind]
	if !is {
		return api.ErrForm
	}
	fields := reflect.ValueOf(v)
	for i := range fields.NumField() {
		name, field := fields.Type().Field(i).Name, fields.Field(i)
		empty := field.IsZero() || field.Kind() == reflect.Slice && field.Len() == 0
		if name != "Kind" && !empty && !slices.Contains(may, name) {
			return api.ErrForm
		}
	}
	if v.Kind == api.Bool && v.Int != 0 && v.Int != 1 || v.Kind == api.Time && (v.Int < 0 || v.Int > 9007199254740992) {
		return api.ErrForm
	}
	if v.Kind == api.Decimal && (v.Scale < 1 || v.Scale > 18 || strings.HasSuffix(fmt.Sprint(v.Int), "0")) {
		return api.ErrForm
	}
	if len(v.Text) > 16384 || len(v.Kids) > 200 {
		return api.ErrLong
	}
	if v.Kind == api.Struct {
		once := slices.Compact(slices.Sorted(slices.Values(v.Names)))
		if len(v.Names) != len(v.Kids) || !slices.Equal(once, v.Names) {
			return api.ErrForm
		}
		if slices.ContainsFunc(v.Names, func(s string) bool { return len(s) < 1 || len(s) > 40 }) {
			return api.ErrForm
		}
	}
	for _, kid := range v.Kids {
		if e := chapterCheck(kid, deep+1); e != api.OK {
			return e
		}
	}
	return api.OK
}

// chapterNumber is what a number is.
func chapterNumber(v api.Value) *big.Rat {
	tens := new(big.Int).Exp(big.NewInt(10), big.NewInt(int64(v.Scale)), nil)
	return new(big.Rat).SetFrac(big.NewInt(int64(v.Int)), tens)
}

func chapterCompare(a, b api.Value) int {
	if chapterCheck(a, 1) != api.OK || chapterCheck(b, 1) != api.OK {
		return 0
	}
	order := [][]int{{api.Null}, {api.Bool}, {api.Int, api.Decimal}, {api.Time}, {api.Text}, {api.Blob}, {api.List}, {api.Struct}}
	class := func(v api.Value) int {
		return slices.IndexFunc(order, func(kinds []int) bool { return slices.Contains(kinds, v.Kind) })
	}
	if class(a) != class(b) {
		return cmp.Compare(class(a), class(b))
	}
	switch a.Kind {
	case api.Null:
		return 0
	case api.Bool, api.Time:
		return cmp.Compare(a.Int, b.Int)
	case api.Int, api.Decimal:
		return chapterNumber(a).Cmp(chapterNumber(b))
	case api.Text, api.Blob:
		return slices.Compare([]byte(a.Text), []byte(b.Text))
	}
	for i := 0; i < len(a.Kids) && i < len(b.Kids); i++ {
		if a.Kind == api.Struct && a.Names[i] != b.Names[i] {
			return slices.Compare([]byte(a.Names[i]), []byte(b.Names[i]))
		}
		if c := chapterCompare(a.Kids[i], b.Kids[i]); c != 0 {
			return c
		}
	}
	return cmp.Compare(len(a.Kids), len(b.Kids))
}

// alike tells whether two are alike in all, be they values or not; a nil list is like an empty one.
func alike(a, b api.Value) bool {
	return a.Kind == b.Kind && a.Int == b.Int && a.Scale == b.Scale && a.Text == b.Text && slices.Equal(a.Names, b.Names) && slices.EqualFunc(a.Kids, b.Kids, alike)
}

func chapterField(v api.Value, name string) (api.Value, bool) {
	if chapterCheck(v, 1) != api.OK || v.Kind != api.Struct || !slices.Contains(v.Names, name) {
		return api.Value{}, false
	}
	return v.Kids[slices.Index(v.Names, name)], true
}

func chapterWith(v api.Value, name string, x api.Value) (api.Value, api.Errno) {
	if e := chapterCheck(v, 1); e != api.OK {
		return api.Value{}, e
	}
	if v.Kind != api.Struct {
		return api.Value{}, api.ErrType
	}
	if e := chapterCheck(x, 1); e != api.OK {
		return api.Value{}, e
	}
	fields := map[string]api.Value{}
	for i, n := range v.Names {
		fields[n] = v.Kids[i]
	}
	fields[name] = x
	out := api.Value{Kind: api.Struct}
	for n := range fields {
		out.Names = append(out.Names, n)
	}
	slices.Sort(out.Names)
	for _, n := range out.Names {
		out.Kids = append(out.Kids, fields[n])
	}
	if e := chapterCheck(out, 1); e != api.OK {
		return api.Value{}, e
	}
	return out, api.OK
}

func chapterSize(v api.Value) (parts, deep int) {
	if chapterCheck(v, 1) != api.OK {
		return 0, 0
	}
	var through func(v api.Value, at int)
	through = func(v api.Value, at int) {
		parts++
		deep = max(deep, at)
		for _, kid := range v.Kids {
			through(kid, at+1)
		}
	}
	through(v, 1)
	return parts, deep
}

func fields(t *testing.T, v api.Value, name string, want api.Value, has bool) {
	t.Helper()
	if got, ok := Field(v, name); ok != has || !alike(got, want) {
		t.Errorf("Field(%s, %q) = %s, %v, want %s, %v", short(v), name, short(got), ok, short(want), has)
	}
}

func withs(t *testing.T, v api.Value, name string, x, want api.Value, e api.Errno) {
	t.Helper()
	if got, f := With(v, name, x); f != e || !alike(got, want) {
		t.Errorf("With(%s, %q, %s) = %s, %v, want %s, %v", short(v), name, short(x), short(got), f, short(want), e)
	}
}

func sizes(t *testing.T, v api.Value, parts, deep int) {
	t.Helper()
	if p, d := Size(v); p != parts || d != deep {
		t.Errorf("Size(%s) = %d, %d, want %d, %d", short(v), p, d, parts, deep)
	}
}

// asTheChapter fails unless each call answers of these what the chapter says.
func asTheChapter(t *testing.T, a, b api.Value, name string) {
	t.Helper()
	checks(t, a, chapterCheck(a, 1))
	want := chapterCompare(a, b)
	if c := Compare(a, b); c != want {
		t.Errorf("Compare(%s, %s) = %d, want %d", short(a), short(b), c, want)
	}
	is := chapterCheck(a, 1) == api.OK && chapterCheck(b, 1) == api.OK && alike(a, b)
	if s := Same(a, b); s != is {
		t.Errorf("Same(%s, %s) = %v, want %v", short(a), short(b), s, is)
	}
	kid, has := chapterField(a, name)
	fields(t, a, name, kid, has)
	made, e := chapterWith(a, name, b)
	withs(t, a, name, b, made, e)
	parts, deep := chapterSize(a)
	sizes(t, a, parts, deep)
}

// P5.2

func TestCompareExamples(t *testing.T) {
	if c := Compare(num(2), dec(25, 1)); c != -1 {
		t.Errorf("2 against 2.5: %d", c)
	}
	if c := Compare(text("a"), blob("a")); c != -1 {
		t.Errorf("Text a against Blob a: %d", c)
	}
}

func TestCompareEveryTwo(t *testing.T) {
	all := ordinary()
	for i, a := range all {
		for j, b := range all {
			if c, want := Compare(a, b), cmp.Compare(i, j); c != want {
				t.Errorf("Compare(%s, %s) = %d, want %d", short(a), short(b), c, want)
			}
		}
	}
}

// numbers are numbers of both kinds, many of them so near to each other that no float parts them.
func numbers() []api.Value {
	var out []api.Value
	whole := []int{math.MinInt, math.MinInt + 1, math.MinInt + 7, -1 << 62, -1 << 32, -1<<32 - 1, -9, -2, -1, 0, 1, 2, 9, 1<<32 - 1, 1 << 32, 1 << 53, 1<<53 + 1, 1 << 62, 1<<62 + 1, math.MaxInt - 8, math.MaxInt - 1, math.MaxInt}
	ten := 1
	for range 18 {
		ten *= 10
		whole = append(whole, ten, -ten, ten-1, ten+1, 1-ten, -1-ten, math.MaxInt/ten, math.MaxInt/ten+1, math.MinInt/ten, math.MinInt/ten-1)
	}
	slices.Sort(whole)
	for _, n := range slices.Compact(whole) {
		out = append(out, num(n))
		for _, scale := range []int{1, 2, 9, 17, 18} {
			if n%10 != 0 {
				out = append(out, dec(n, scale))
			}
		}
	}
	return out
}

func TestCompareNumbers(t *testing.T) {
	all := numbers()
	rats := make([]*big.Rat, len(all))
	for i, v := range all {
		rats[i] = chapterNumber(v)
	}
	for i, a := range all {
		for j, b := range all {
			if c, want := Compare(a, b), rats[i].Cmp(rats[j]); c != want {
				t.Fatalf("Compare(%s, %s) = %d, want %d", short(a), short(b), c, want)
			}
			if s := Same(a, b); s != (i == j) {
				t.Fatalf("Same(%s, %s) = %v", short(a), short(b), s)
			}
		}
	}
}

// Two numbers of which each is the other's next neighbour at its Scale.
func TestCompareNeighbours(t *testing.T) {
	for scale := 1; scale <= api.MaxScale; scale++ {
		ten := 1
		for range scale {
			ten *= 10
		}
		for _, whole := range []int{1, 2, 5, 8, math.MaxInt/ten - 1} {
			below, above := dec(whole*ten-1, scale), dec(whole*ten+1, scale)
			row := []api.Value{below, num(whole), above}
			for i, a := range row {
				for j, b := range row {
					minusA, minusB := a, b
					minusA.Int, minusB.Int = -a.Int, -b.Int
					if Compare(a, b) != cmp.Compare(i, j) || Compare(minusA, minusB) != cmp.Compare(j, i) {
						t.Errorf("Compare(%s, %s) = %d, below nought %d", short(a), short(b), Compare(a, b), Compare(minusA, minusB))
					}
				}
			}
		}
	}
}

func TestCompareOfClassesAsAWhole(t *testing.T) {
	// The first and the last of each class, ahead of what stands in it otherwise.
	row := []api.Value{null(), truth(0), truth(1), num(math.MinInt), num(math.MaxInt), clock(0), clock(1 << 53), text(""), text(strings.Repeat("\xff", 1<<14)), blob(""), blob(strings.Repeat("\xff", 1<<14)), list(), list(many(200)...), record(""), wide(200)}
	for i, a := range row {
		for j, b := range row {
			if c := Compare(a, b); c != cmp.Compare(i, j) {
				t.Errorf("Compare(%s, %s) = %d", short(a), short(b), c)
			}
			if c := Compare(list(a), list(b)); c != cmp.Compare(i, j) {
				t.Errorf("Compare of lists of %s, %s = %d", short(a), short(b), c)
			}
			if c := Compare(under("x", a), under("x", b)); c != cmp.Compare(i, j) {
				t.Errorf("Compare of structs of %s, %s = %d", short(a), short(b), c)
			}
		}
	}
}

func TestCompareDeepAndWide(t *testing.T) {
	if c := Compare(nested(num(1), 15), nested(num(2), 15)); c != -1 {
		t.Errorf("15 deep: %d", c)
	}
	if c := Compare(nested(dec(25, 1), 15), nested(num(2), 15)); c != 1 {
		t.Errorf("15 deep: %d", c)
	}
	for at := range api.MaxFields {
		a, b := wide(api.MaxFields), wide(api.MaxFields)
		b.Kids[at] = num(0)
		if Compare(a, b) != -1 || Compare(b, a) != 1 || Compare(list(a.Kids...), list(b.Kids...)) != -1 {
			t.Errorf("another kid at %d: %d", at, Compare(a, b))
		}
		b = wide(api.MaxFields)
		b.Names[at] += "0"
		if Compare(a, b) != -1 || Compare(b, a) != 1 || Same(a, b) {
			t.Errorf("another name at %d: %d", at, Compare(a, b))
		}
	}
}

// A name is ahead of its kid, a pair ahead of the next one, all ahead of how many there are.
func TestCompareStructsPairByPair(t *testing.T) {
	for _, c := range [][2]api.Value{
		{under("a", num(9)), under("b", num(1))},
		{record("a b", num(1), num(9)), record("a b", num(2), num(1))},
		{record("a c", num(1), num(1)), record("a b", num(2), num(1))},
		{record("a b c", num(1), num(1), num(1)), under("a", num(2))},
		{record("a b c", num(1), num(1), num(1)), under("b", null())},
		{record("a b", num(1), num(9)), record("a c", num(1), num(1))},
		{under("a", num(1)), record("a b", num(1), null())},
	} {
		if Compare(c[0], c[1]) != -1 || Compare(c[1], c[0]) != 1 {
			t.Errorf("Compare(%s, %s) = %d and %d", short(c[0]), short(c[1]), Compare(c[0], c[1]), Compare(c[1], c[0]))
		}
	}
}

func TestOfWhatIsNoValue(t *testing.T) {
	bad := append(faults(), fault{nested(null(), 16), api.ErrDeep})
	for _, f := range bad {
		for _, v := range []api.Value{f.v, list(null(), f.v), record("a z", null(), f.v)} {
			for _, w := range append(ordinary(), f.v) {
				if Compare(v, w) != 0 || Compare(w, v) != 0 {
					t.Errorf("Compare(%s, %s) = %d, turned round %d", short(v), short(w), Compare(v, w), Compare(w, v))
				}
				if Same(v, w) || Same(w, v) {
					t.Errorf("Same(%s, %s)", short(v), short(w))
				}
			}
			if Same(v, v) || Compare(v, v) != 0 {
				t.Errorf("%s is the same as itself", short(v))
			}
			sizes(t, v, 0, 0)
			for _, name := range []string{"a", "z", "", "n0001"} {
				fields(t, v, name, api.Value{}, false)
			}
		}
	}
}

// P5.3

func TestSame(t *testing.T) {
	for i, a := range ordinary() {
		for j, b := range ordinary() {
			if Same(a, b) != (i == j) {
				t.Errorf("Same(%s, %s) = %v", short(a), short(b), i != j)
			}
		}
	}
	for i, a := range greatest() {
		if !Same(a, greatest()[i]) {
			t.Errorf("%s is not the same as itself", short(a))
		}
	}
}

func TestSameOfNilAndEmpty(t *testing.T) {
	for _, kind := range []int{api.Null, api.Text, api.List, api.Struct} {
		a, b := api.Value{Kind: kind}, api.Value{Kind: kind, Names: []string{}, Kids: []api.Value{}}
		if !Same(a, b) || Compare(a, b) != 0 {
			t.Errorf("kind %d: nil lists are not as empty ones", kind)
		}
	}
}

func TestField(t *testing.T) {
	v := record("a ab b z", num(1), text("x"), list(num(2), null()), record("a", blob("y")))
	fields(t, v, "a", num(1), true)
	fields(t, v, "ab", text("x"), true)
	fields(t, v, "b", list(num(2), null()), true)
	fields(t, v, "z", record("a", blob("y")), true)
	for _, name := range []string{"", "A", "aa", "abc", "c", "zz", "\x00", "\xff", "a ", strings.Repeat("a", 41)} {
		fields(t, v, name, api.Value{}, false)
	}
	fields(t, record(""), "a", api.Value{}, false)
	fields(t, record(""), "", api.Value{}, false)
	for i, name := range names(api.MaxFields) {
		w := wide(api.MaxFields)
		w.Kids[i] = num(i)
		fields(t, w, name, num(i), true)
		fields(t, w, name+"0", api.Value{}, false)
	}
}

func TestFieldOfWhatIsNoStruct(t *testing.T) {
	for _, v := range ordinary() {
		if v.Kind != api.Struct {
			fields(t, v, "a", api.Value{}, false)
			fields(t, v, "", api.Value{}, false)
		}
	}
	fields(t, api.Value{Kind: api.List, Names: []string{"a"}, Kids: many(1)}, "a", api.Value{}, false)
	fields(t, api.Value{Kind: api.Struct, Names: []string{"a"}}, "a", api.Value{}, false)
	fields(t, api.Value{Kind: api.Struct, Names: []string{""}, Kids: many(1)}, "", api.Value{}, false)
}

func TestWithPuts(t *testing.T) {
	v := record("b d", num(1), num(2))
	for _, x := range append(ordinary(), nested(null(), 14)) {
		withs(t, v, "a", x, record("a b d", x, num(1), num(2)), api.OK)
		withs(t, v, "c", x, record("b c d", num(1), x, num(2)), api.OK)
		withs(t, v, "e", x, record("b d e", num(1), num(2), x), api.OK)
		withs(t, v, "b", x, record("b d", x, num(2)), api.OK)
		withs(t, v, "d", x, record("b d", num(1), x), api.OK)
		withs(t, record(""), "a", x, under("a", x), api.OK)
		withs(t, api.Value{Kind: api.Struct}, strings.Repeat("\xff", api.MaxName), x, under(strings.Repeat("\xff", api.MaxName), x), api.OK)
	}
}

func TestWithThenField(t *testing.T) {
	v := record("")
	for i := range api.MaxFields {
		// 77 and 200 have no divisor in common: each name comes once, in no order.
		name := names(api.MaxFields)[i*77%api.MaxFields]
		made, e := With(v, name, num(i))
		if e != api.OK || len(made.Kids) != i+1 || Check(made) != api.OK {
			t.Fatalf("With the %dth field: %v, %s", i, e, short(made))
		}
		fields(t, made, name, num(i), true)
		fields(t, v, name, api.Value{}, false)
		v = made
	}
	withs(t, v, "n0000a", null(), api.Value{}, api.ErrLong)
	if made, e := With(v, "n0007", text("in its stead")); e != api.OK || len(made.Kids) != api.MaxFields {
		t.Errorf("With a field in the stead of another one: %v", e)
	}
}

func TestWithErrorsInTheirOrder(t *testing.T) {
	deepest := nested(null(), 15)
	for _, f := range append(faults(), fault{nested(null(), 16), api.ErrDeep}) {
		for _, x := range append(ordinary(), api.Value{}, deepest, list(many(201)...), nested(null(), 16)) {
			withs(t, f.v, "a", x, api.Value{}, f.e)
			withs(t, list(f.v), "", x, api.Value{}, chapterCheck(list(f.v), 1))
		}
		for _, v := range ordinary() {
			if v.Kind == api.Struct {
				withs(t, v, "a", f.v, api.Value{}, f.e)
				withs(t, v, "", f.v, api.Value{}, f.e)
			} else {
				withs(t, v, "a", f.v, api.Value{}, api.ErrType)
				withs(t, v, "", null(), api.Value{}, api.ErrType)
			}
		}
		withs(t, wide(api.MaxFields), "z", f.v, api.Value{}, f.e)
	}
}

func TestWithErrorsOfWhatIsMade(t *testing.T) {
	deepest, long := nested(null(), 15), strings.Repeat("n", api.MaxName+1)
	v, full := record("b", num(1)), wide(api.MaxFields)
	for _, name := range []string{"", long, strings.Repeat("a", 1<<14)} {
		withs(t, v, name, null(), api.Value{}, api.ErrForm)
		withs(t, record(""), name, null(), api.Value{}, api.ErrForm)
		// The name stands at the top, x one below it.
		withs(t, v, name, deepest, api.Value{}, api.ErrForm)
		// How many there are is ahead of the names.
		withs(t, full, name, null(), api.Value{}, api.ErrLong)
		withs(t, full, name, deepest, api.Value{}, api.ErrLong)
	}
	withs(t, v, "a", deepest, api.Value{}, api.ErrDeep)
	withs(t, v, "b", deepest, api.Value{}, api.ErrDeep)
	withs(t, full, "n0000", deepest, api.Value{}, api.ErrDeep)
	withs(t, full, "z", null(), api.Value{}, api.ErrLong)
	withs(t, full, "z", deepest, api.Value{}, api.ErrLong)
	// What is too much in v counts no more when it could be put in the stead of: v has to be a value ahead of it.
	withs(t, under("a", deepest), "a", null(), api.Value{}, api.ErrDeep)
}

func TestSize(t *testing.T) {
	for _, v := range ordinary() {
		parts, deep := chapterSize(v)
		sizes(t, v, parts, deep)
	}
	sizes(t, null(), 1, 1)
	sizes(t, text(strings.Repeat("x", 99)), 1, 1)
	sizes(t, list(), 1, 1)
	sizes(t, record(""), 1, 1)
	sizes(t, list(null()), 2, 2)
	sizes(t, list(null(), list(null(), null()), null()), 6, 3)
	sizes(t, list(nested(null(), 3), null()), 6, 5)
	sizes(t, record("a b", list(list(), null()), null()), 5, 3)
	sizes(t, wide(api.MaxFields), api.MaxFields+1, 2)
	for n := range api.MaxDeep {
		sizes(t, nested(num(1), n), n+1, n+1)
	}
	// One list of kids may stand at many places: each place counts.
	twice := null()
	for range api.MaxDeep - 1 {
		twice = list(twice, twice)
	}
	sizes(t, twice, 1<<api.MaxDeep-1, api.MaxDeep)
}

// All calls against the chapter

func TestEveryTwoAsTheChapter(t *testing.T) {
	all := append(ordinary(), greatest()...)
	for _, f := range faults() {
		all = append(all, f.v, under("a", f.v))
	}
	for i, a := range all {
		for j, b := range all {
			asTheChapter(t, a, b, []string{"a", "b", "", "n0007", "c"}[(i+j)%5])
		}
	}
}

// maker makes values out of bytes: the same of the same bytes.
type maker struct {
	from []byte
	ill  bool // now and then what is no value
}

func (m *maker) next() int {
	if len(m.from) == 0 {
		return 0
	}
	b := m.from[0]
	m.from = m.from[1:]
	return int(b)
}

// pick is one of these.
func pick[T any](m *maker, of ...T) T { return of[m.next()%len(of)] }

func (m *maker) name() string {
	if m.ill && m.next()%16 == 0 {
		return pick(m, "", strings.Repeat("n", 40), strings.Repeat("n", 41))
	}
	return pick(m, "a", "b", "ab", "c", "\x00", "\xff", "a\x00", "é")
}

func (m *maker) number() int {
	n := pick(m, 0, 1, -1, 2, 9, 10, 25, -25, 99, 100, math.MaxInt, math.MinInt, 1<<53, 1<<53+1, 1<<32, 922337203685477580, -922337203685477581, m.next()-128, m.next()<<8+m.next())
	if m.next()%8 == 0 {
		n += m.next() - 128
	}
	return n
}

func (m *maker) value(deep int) api.Value {
	kind := m.next()%9 + 1
	if m.ill && m.next()%32 == 0 {
		kind = pick(m, 0, 10, -1, math.MaxInt)
	}
	v := api.Value{Kind: kind}
	switch kind {
	case api.Bool:
		v.Int = m.next() % 2
	case api.Int:
		v.Int = m.number()
	case api.Decimal:
		v.Int, v.Scale = m.number(), m.next()%18+1
		if !m.ill && v.Int%10 == 0 {
			v.Int++
		}
	case api.Time:
		v.Int = m.next()<<8 + m.next()
	case api.Text, api.Blob:
		v.Text = pick(m, "", "a", "ab", "b", "\x00", "\xff", m.name())
	case api.List, api.Struct:
		m.kids(&v, deep)
	}
	if m.ill && m.next()%32 == 0 {
		m.spoil(&v)
	}
	return v
}

func (m *maker) kids(v *api.Value, deep int) {
	n := m.next() % 4
	if deep >= 6 && !m.ill || deep > 20 {
		n = 0
	}
	for range n {
		v.Kids = append(v.Kids, m.value(deep+1))
		if v.Kind == api.Struct {
			v.Names = append(v.Names, m.name())
		}
	}
	if v.Kind == api.Struct && !(m.ill && m.next()%8 == 0) {
		slices.Sort(v.Names)
		v.Names = slices.Compact(v.Names)
		v.Kids = v.Kids[:len(v.Names)]
	}
}

func (m *maker) spoil(v *api.Value) {
	switch m.next() % 7 {
	case 0:
		v.Int = m.number()
	case 1:
		v.Scale = m.number()
	case 2:
		v.Text = strings.Repeat("x", pick(m, 1, 1<<14, 1<<14+1))
	case 3:
		v.Names = append(v.Names, m.name())
	case 4:
		v.Kids = append(v.Kids, null())
	case 5:
		*v = nested(*v, m.next()%20)
	case 6:
		v.Kids = many(pick(m, 200, 201))
	}
}

func bytesOf(r *rand.Rand, n int) []byte {
	b := make([]byte, n)
	r.Read(b)
	return b
}

func TestManyAsTheChapter(t *testing.T) {
	r := rand.New(rand.NewSource(5))
	for range 20000 {
		m := &maker{from: bytesOf(r, 120), ill: r.Intn(2) == 0}
		a, b := m.value(1), m.value(1)
		asTheChapter(t, a, b, m.name())
		asTheChapter(t, a, a, m.name())
	}
}

// P5.4

func TestCompareIsAnOrder(t *testing.T) {
	r := rand.New(rand.NewSource(54))
	all := append(ordinary(), greatest()[:7]...)
	for len(all) < 220 {
		v := (&maker{from: bytesOf(r, 60)}).value(1)
		if Check(v) == api.OK {
			all = append(all, v)
		}
	}
	row := make([][]int, len(all))
	for i, a := range all {
		row[i] = make([]int, len(all))
		for j, b := range all {
			row[i][j] = Compare(a, b)
			if c := row[i][j]; c < -1 || c > 1 || c != -Compare(b, a) || (c == 0) != Same(a, b) || Same(a, b) != alike(a, b) {
				t.Fatalf("Compare(%s, %s) = %d, turned round %d, Same %v", short(a), short(b), c, Compare(b, a), Same(a, b))
			}
		}
	}
	for i := range all {
		for j := range all {
			for k := range all {
				if row[i][j] <= 0 && row[j][k] <= 0 && row[i][k] != min(row[i][j], row[j][k]) {
					t.Fatalf("%s, %s, %s: %d, %d, but %d", short(all[i]), short(all[j]), short(all[k]), row[i][j], row[j][k], row[i][k])
				}
			}
		}
	}
}

func TestSortedByCompare(t *testing.T) {
	want := ordinary()
	for seed := range int64(20) {
		got := ordinary()
		rand.New(rand.NewSource(seed)).Shuffle(len(got), func(i, j int) { got[i], got[j] = got[j], got[i] })
		slices.SortFunc(got, Compare)
		if !slices.EqualFunc(got, want, alike) {
			t.Fatalf("shuffled by %d, another order", seed)
		}
	}
}

// W6, W7: what is handed in and what is answered

// spared is a value in memory of its own, each list with spare room behind its end.
func spared(v api.Value) api.Value {
	names, kids := make([]string, len(v.Names)+2), make([]api.Value, len(v.Kids)+2)
	copy(names, v.Names)
	for i, kid := range v.Kids {
		kids[i] = spared(kid)
	}
	names[len(v.Names)], kids[len(v.Kids)] = "spare", text("spare")
	v.Names, v.Kids = names[:len(v.Names)], kids[:len(v.Kids)]
	return v
}

// whole is all of a value as a text, spare room too.
func whole(v api.Value) string {
	var out strings.Builder
	fmt.Fprintf(&out, "%d %d %d %q %q %d[", v.Kind, v.Int, v.Scale, v.Text, v.Names[:cap(v.Names)], len(v.Kids))
	for _, kid := range v.Kids[:cap(v.Kids)] {
		out.WriteString(whole(kid))
	}
	return out.String() + "]"
}

// turn makes all memory of a value another one, spare room too.
func turn(v api.Value) {
	for i := range v.Names[:cap(v.Names)] {
		v.Names[:cap(v.Names)][i] += "turned"
	}
	for i, kid := range v.Kids[:cap(v.Kids)] {
		turn(kid)
		v.Kids[:cap(v.Kids)][i] = api.Value{Kind: -kid.Kind, Int: ^kid.Int, Text: kid.Text + "turned"}
	}
}

// calls are the six calls: what each answers, first as a value, if it is one, then as a text.
func calls() map[string]func(a, b api.Value) (api.Value, string) {
	return map[string]func(a, b api.Value) (api.Value, string){
		"Check":   func(a, b api.Value) (api.Value, string) { return api.Value{}, fmt.Sprint(Check(a), Check(b)) },
		"Compare": func(a, b api.Value) (api.Value, string) { return api.Value{}, fmt.Sprint(Compare(a, b)) },
		"Same":    func(a, b api.Value) (api.Value, string) { return api.Value{}, fmt.Sprint(Same(a, b)) },
		"Size": func(a, b api.Value) (api.Value, string) {
			parts, deep := Size(a)
			return api.Value{}, fmt.Sprint(parts, deep)
		},
		"Field": func(a, b api.Value) (api.Value, string) {
			v, has := Field(a, "b")
			return v, fmt.Sprint(has)
		},
		"With b": func(a, b api.Value) (api.Value, string) {
			v, e := With(a, "b", b)
			return v, fmt.Sprint(e)
		},
		"With a new one": func(a, b api.Value) (api.Value, string) {
			v, e := With(a, "ax", b)
			return v, fmt.Sprint(e)
		},
	}
}

// pairs are what the calls are given here.
func pairs() [][2]api.Value {
	shared := list(num(1), list(text("x")))
	rich := record("a b c", list(num(1), list(null(), num(2))), record("x y", list(num(3)), null()), text("z"))
	return [][2]api.Value{
		{rich, record("a b", list(null()), blob("q"))}, {rich, list(list(list(num(7)), num(8)), text("t"))}, {rich, rich},
		{record("a b c", shared, shared, list(shared, shared)), shared}, {under("b", shared), list(shared, shared)},
		{record(""), list()}, {record(""), record("")}, {under("b", list()), under("b", record(""))},
		{list(rich), num(1)}, {rich, {Kind: api.List, Int: 1, Kids: many(2)}}, {{Kind: api.Struct, Names: []string{"b", "a"}, Kids: many(2)}, rich}, {rich, nested(null(), 15)},
	}
}

func TestHandedInIsNotChanged(t *testing.T) {
	for name, call := range calls() {
		for i, p := range pairs() {
			a, b := spared(p[0]), spared(p[1])
			before := whole(a) + whole(b)
			got, _ := call(a, b)
			if whole(a)+whole(b) != before {
				t.Errorf("%s of pair %d changes what is handed in", name, i)
			}
			turn(got)
			if whole(a)+whole(b) != before {
				t.Errorf("%s of pair %d: what is answered shares memory with what is handed in", name, i)
			}
		}
	}
}

func TestHandedInIsNotKept(t *testing.T) {
	for name, call := range calls() {
		for i, p := range pairs() {
			a, b := spared(p[0]), spared(p[1])
			got, said := call(a, b)
			before := whole(got)
			turn(a)
			turn(b)
			if whole(got) != before {
				t.Errorf("%s of pair %d: the answer is another one when what was handed in is", name, i)
			}
			if again, saidAgain := call(spared(p[0]), spared(p[1])); !alike(again, got) || saidAgain != said {
				t.Errorf("%s of pair %d answers otherwise the second time", name, i)
			}
		}
	}
}

func TestSpareRoomIsNotSeen(t *testing.T) {
	for name, call := range calls() {
		for i, p := range pairs() {
			got, said := call(p[0], p[1])
			if other, saidToo := call(spared(p[0]), spared(p[1])); !alike(got, other) || said != saidToo || strings.Contains(whole(other), "spare") {
				t.Errorf("%s of pair %d: spare room is seen", name, i)
			}
		}
	}
}

// places counts where each element of each list stands, spare room too.
func places(v api.Value, count map[any]int) {
	names, kids := v.Names[:cap(v.Names)], v.Kids[:cap(v.Kids)]
	for i := range names {
		count[&names[i]]++
	}
	for i := range kids {
		count[&kids[i]]++
		places(kids[i], count)
	}
}

func TestAnswersAreNewMemory(t *testing.T) {
	for name, call := range calls() {
		for i, p := range pairs() {
			handed, count := map[any]int{}, map[any]int{}
			places(p[0], handed)
			places(p[1], handed)
			first, _ := call(p[0], p[1])
			second, _ := call(p[0], p[1])
			places(first, count)
			places(second, count)
			for place, n := range count {
				if n != 1 || handed[place] != 0 {
					t.Fatalf("%s of pair %d: one place is in %d lists that are answered, in %d that are handed in", name, i, n, handed[place])
				}
			}
		}
	}
}

func TestAnswersStay(t *testing.T) {
	type answer struct {
		v    api.Value
		said string
	}
	var all []answer
	for _, p := range pairs() {
		for _, call := range calls() {
			v, _ := call(p[0], p[1])
			all = append(all, answer{v, whole(v)})
		}
	}
	for _, a := range all {
		for name, call := range calls() {
			call(a.v, a.v)
			if whole(a.v) != a.said {
				t.Fatalf("behind %s an answer is another one", name)
			}
		}
	}
}

func TestSideBySide(t *testing.T) {
	all := append(ordinary(), greatest()...)
	var group sync.WaitGroup
	for range 8 {
		group.Go(func() {
			for i, a := range all {
				asTheChapter(t, a, all[(i*7)%len(all)], "a")
			}
		})
	}
	group.Wait()
}

// W1: any values

func FuzzAnyBytes(f *testing.F) {
	r := rand.New(rand.NewSource(1))
	for n := range 40 {
		f.Add(bytesOf(r, n*5), n%2 == 0)
	}
	f.Fuzz(func(t *testing.T, b []byte, ill bool) {
		m := &maker{from: b, ill: ill}
		x, y, name := m.value(1), m.value(1), m.name()
		asTheChapter(t, x, y, name)
		asTheChapter(t, y, x, name)
		asTheChapter(t, x, x, name)
		if Compare(x, y) != -Compare(y, x) {
			t.Errorf("Compare(%s, %s) turned round is not the other one", short(x), short(y))
		}
	})
}
