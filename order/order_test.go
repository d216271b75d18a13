package order

import (
	"encoding/binary"
	"fmt"
	"math"
	"math/big"
	"math/rand"
	"runtime"
	"slices"
	"strconv"
	"strings"
	"sync"
	"testing"
	"unsafe"

	"scrivener/api"
	"scrivener/value"
)

func null() api.Value               { return api.Value{Kind: api.Null} }
func truth(n int) api.Value         { return api.Value{Kind: api.Bool, Int: n} }
func num(n int) api.Value           { return api.Value{Kind: api.Int, Int: n} }
func dec(n, s int) api.Value        { return api.Value{Kind: api.Decimal, Int: n, Scale: s} }
func clock(n int) api.Value         { return api.Value{Kind: api.Time, Int: n} }
func text(s string) api.Value       { return api.Value{Kind: api.Text, Text: s} }
func blob(s string) api.Value       { return api.Value{Kind: api.Blob, Text: s} }
func list(l ...api.Value) api.Value { return api.Value{Kind: api.List, Kids: l} }

// record is a struct with these names, parted by blanks.
func record(names string, kids ...api.Value) api.Value {
	return api.Value{Kind: api.Struct, Names: strings.Fields(names), Kids: kids}
}

// under is a struct with one field.
func under(name string, v api.Value) api.Value {
	return api.Value{Kind: api.Struct, Names: []string{name}, Kids: []api.Value{v}}
}

// many is n kids, all Null.
func many(n int) []api.Value { return slices.Repeat([]api.Value{null()}, n) }

// wide is a struct of n fields.
func wide(n int) api.Value {
	v := api.Value{Kind: api.Struct, Kids: many(n)}
	for i := range n {
		v.Names = append(v.Names, fmt.Sprintf("n%05d", i))
	}
	return v
}

// letters is a text of n bytes.
func letters(n int) api.Value { return text(strings.Repeat("x", n)) }

// nested is v within n lists or structs, by turns.
func nested(v api.Value, n int) api.Value {
	for i := range n {
		if i%2 == 0 {
			v = list(v)
		} else {
			v = under("in", v)
		}
	}
	return v
}

func rep(s string, n int) string { return strings.Repeat(s, n) }

// row is the bytes that hexadecimal digits tell, in groups parted by blanks.
func row(hex string) string {
	var b []byte
	for _, x := range strings.Fields(hex) {
		u, e := strconv.ParseUint(x, 16, 8)
		if e != nil {
			panic(e)
		}
		b = append(b, byte(u))
	}
	return string(b)
}

// shortKey is a key for a message, cut where it is long.
func shortKey(k string) string {
	if len(k) <= 60 {
		return fmt.Sprintf("% x", k)
	}
	return fmt.Sprintf("% x .. (%d bytes)", k[:60], len(k))
}

// short is a list of values for a message, cut where it is long.
func short(l []api.Value) string {
	for _, v := range l {
		if value.Check(v) == api.ErrDeep {
			return fmt.Sprintf("%d with one of kind %d that is too deep", len(l), v.Kind)
		}
	}
	s := fmt.Sprintf("%d %+v", len(l), l[:min(len(l), 20)])
	return s[:min(len(s), 300)]
}

// alike tells whether two are alike in all, be they values or not; a nil list is like an empty one.
func alike(a, b api.Value) bool {
	return a.Kind == b.Kind && a.Int == b.Int && a.Scale == b.Scale && a.Text == b.Text && slices.Equal(a.Names, b.Names) && slices.EqualFunc(a.Kids, b.Kids, alike)
}

// ordinary are values of each class.
func ordinary() []api.Value {
	out := []api.Value{
		null(), truth(0), truth(1),
		clock(0), clock(1), clock(255), clock(256), clock(300), clock(1<<32 + 7), clock(1<<53 - 1), clock(1 << 53),
		text("a"), text("ab"), text("b"), text("\xff\xfe"), text("\xff"), text("é"), text(rep("z", 127)), text("P\x00\x00"),
		blob("a"), blob("ab"), blob("\x00\xff\x80"), blob(rep("\xff", 300)),
		list(null()), list(null(), truth(1)), list(num(1), num(1)), list(num(1)), list(num(-1)), list(num(-1), num(1)), list(list(), list(list(null()), text("x")), num(-300)), list(record(""), under("a", null())), list(list()), list(list(), list()), list(many(128)...),
		under("a", null()), under("a", num(1)), under("a", num(2)), under("aa", num(0)), under("b", null()), under(rep("n", api.MaxName), list()), record("a b", list(null(), truth(1)), dec(-15, 1)), record("a aa b", num(1), text("two"), blob("three")), record("a b", num(1), null()),
		under("a", under("a", under("a", list(clock(7), record("x y", null(), list()))))), wide(127),
	}
	return slices.Concat(out, zeros(), numbers())
}

// zeros are texts, blobs and names with the byte 00 in them, lists and structs of nothing, and the like.
func zeros() []api.Value {
	out := []api.Value{text(""), blob(""), list(), record(""), list(list(), record(""), text(""), blob(""))}
	for _, s := range []string{"\x00", "\x00\x00", "\x00\x00\x00", "\x00a", "a\x00", "\x00a\x00", "a\x00b", "a\x00\x00b", "\x00\xff", "\xff\x00", "\x00\x01", "\x01", "\x01\x00", "\x00\xff\x00\xff", "\xff\x00\x00\xff", "\x00\x10\x00", rep("\x00", 40)} {
		out = append(out, text(s), blob(s), under(s, null()), under(s, text(s)), list(text(s), text("\x00")), list(text(s)))
	}
	return out
}

// numbers are those around each power of ten that an Int or a Decimal may be, and around each power of two, of both signs.
func numbers() []api.Value {
	out := []api.Value{num(math.MaxInt), num(math.MinInt), num(math.MinInt + 1), num(101), num(-101), num(110), num(120), num(-120), dec(math.MinInt, 1), dec(math.MinInt, 18), dec(math.MaxInt, 1), dec(math.MaxInt, 18)}
	seen := map[int]bool{}
	add := func(n int) {
		if seen[n] {
			return
		}
		seen[n] = true
		out = append(out, num(n))
		for _, s := range []int{1, 2, 9, 17, 18} {
			if n%10 != 0 {
				out = append(out, dec(n, s))
			}
		}
	}
	for i, p := 0, 1; i < 19; i, p = i+1, p*10 {
		for _, n := range []int{p, p - 1, p + 1, 2 * p, p / 2 * 3, 9 * p, p / 10 * 25, p / 100 * 205} {
			add(n)
			add(-n)
		}
	}
	for i := range 62 {
		add(1<<i + 3)
		add(-1<<i - 3)
	}
	for s := 1; s <= 18; s++ {
		out = append(out, dec(1, s), dec(-1, s), dec(9, s), dec(-9, s), dec(11, s), dec(-11, s))
	}
	return out
}

// greatest are values at the edges.
func greatest() []api.Value {
	return []api.Value{
		letters(1<<14 - 1), letters(1 << 14), blob(rep("\xff", 1<<14)), text(rep("\x00", 1<<14)), list(many(api.MaxFields)...), wide(api.MaxFields), list(slices.Repeat([]api.Value{letters(1 << 14)}, 200)...),
		nested(null(), api.MaxDeep-1), nested(list(), api.MaxDeep-1), nested(record(""), api.MaxDeep-1), nested(letters(1<<14), api.MaxDeep-1), nested(num(-7), api.MaxDeep-1),
		under(rep("\x00", api.MaxName), null()), under(rep("\xff", api.MaxName), null()),
		{Kind: api.List, Names: []string{}, Kids: []api.Value{}}, {Kind: api.Null, Names: []string{}, Kids: []api.Value{}},
	}
}

// fault is what is no value, and Check's error of it.
type fault struct {
	v api.Value
	e api.Errno
}

// writtenFaults are faults that have bytes of the form of a key: it is Check that refuses them.
func writtenFaults() []fault {
	return []fault{
		{truth(2), api.ErrForm}, {truth(255), api.ErrForm},
		{clock(1<<53 + 1), api.ErrForm}, {clock(math.MaxInt), api.ErrForm}, {clock(-1), api.ErrForm}, {clock(math.MinInt), api.ErrForm}, {clock(math.MinInt + 5), api.ErrForm},
		{letters(1<<14 + 1), api.ErrLong}, {letters(1 << 16), api.ErrLong}, {blob(rep("\xff", 1<<14+1)), api.ErrLong}, {blob(rep("\x00", 1<<14+1)), api.ErrLong}, {list(many(api.MaxFields + 1)...), api.ErrLong}, {wide(api.MaxFields + 1), api.ErrLong},
		{list(many(1 << 16)...), api.ErrLong}, {wide(1 << 13), api.ErrLong}, {api.Value{Kind: api.Struct, Names: make([]string, 201), Kids: many(201)}, api.ErrLong},
		{under("", null()), api.ErrForm}, {under(rep("n", api.MaxName+1), null()), api.ErrForm}, {under(rep("\x00", api.MaxName+1), null()), api.ErrForm}, {under(rep("n", 1<<16), null()), api.ErrForm}, {record("b a", null(), null()), api.ErrForm}, {record("a a", null(), null()), api.ErrForm}, {record("a b b c", many(4)...), api.ErrForm}, {api.Value{Kind: api.Struct, Names: []string{"a\x00", "a"}, Kids: many(2)}, api.ErrForm},
		{nested(null(), api.MaxDeep), api.ErrDeep}, {nested(list(), 40), api.ErrDeep}, {list(null(), nested(num(5), api.MaxDeep-1)), api.ErrDeep}, {nested(text(""), 300), api.ErrDeep},
		// The top is ahead of the kids, each kid ahead of the next one.
		{record("b a", letters(1<<14+1), null()), api.ErrForm}, {list(slices.Repeat([]api.Value{truth(2)}, 201)...), api.ErrLong},
		{list(truth(2), letters(1<<14+1)), api.ErrForm}, {list(letters(1<<14+1), truth(2)), api.ErrLong}, {list(null(), list(list(truth(9))), letters(1<<14+1)), api.ErrForm},
	}
}

// faults are all kinds of what Check refuses.
func faults() []fault {
	return append(writtenFaults(), []fault{
		{api.Value{}, api.ErrForm}, {api.Value{Kind: 10}, api.ErrForm}, {api.Value{Kind: -1}, api.ErrForm}, {api.Value{Kind: 256 + api.Null}, api.ErrForm}, {api.Value{Kind: math.MinInt}, api.ErrForm},
		{truth(-1), api.ErrForm}, {truth(257), api.ErrForm}, {dec(1, 257), api.ErrForm}, {dec(1, -1), api.ErrForm}, {dec(1, 0), api.ErrForm}, {dec(0, 1), api.ErrForm}, {dec(1, 19), api.ErrForm}, {dec(20, 1), api.ErrForm}, {dec(-10, 18), api.ErrForm}, {dec(1, math.MaxInt), api.ErrForm},
		{api.Value{Kind: api.Null, Text: "x"}, api.ErrForm}, {api.Value{Kind: api.Int, Scale: 1}, api.ErrForm}, {api.Value{Kind: api.Text, Kids: many(1)}, api.ErrForm}, {api.Value{Kind: api.List, Names: []string{"a"}, Kids: many(1)}, api.ErrForm},
		{record("a b", null()), api.ErrForm}, {record("a", null(), null()), api.ErrForm}, {record("a"), api.ErrForm},
		{list(null(), nested(dec(20, 1), api.MaxDeep-1)), api.ErrDeep}, {list(num(1), dec(20, 1)), api.ErrForm},
	}...)
}

// The chapter, clause by clause: what the tests below hold the answers against.

// chapterNumber is what a number's key has behind its class.
func chapterNumber(v api.Value) string {
	if v.Int == 0 {
		return "\x80"
	}
	digits := strings.TrimPrefix(strconv.Itoa(v.Int), "-")
	e := len(digits) - v.Scale
	b := []byte{byte(0xc0 + e)}
	for _, d := range strings.TrimRight(digits, "0") {
		b = append(b, 1+byte(d-'0'))
	}
	b = append(b, 0)
	if v.Int < 0 {
		for i := range b {
			b[i] = 0xff - b[i]
		}
	}
	return string(b)
}

func chapterText(s string) string {
	var out strings.Builder
	for i := range len(s) {
		out.WriteByte(s[i])
		if s[i] == 0 {
			out.WriteByte(0xff)
		}
	}
	return out.String() + "\x00\x00"
}

// chapterValueKey is a value's key, even of some that are no values.
func chapterValueKey(v api.Value) string {
	switch v.Kind {
	case api.Null:
		return "\x10"
	case api.Bool:
		return string([]byte{0x20, byte(v.Int)})
	case api.Int, api.Decimal:
		return "\x30" + chapterNumber(v)
	case api.Time:
		return string(binary.BigEndian.AppendUint64([]byte{0x40}, uint64(v.Int)))
	case api.Text:
		return "\x50" + chapterText(v.Text)
	case api.Blob:
		return "\x60" + chapterText(v.Text)
	}
	var out strings.Builder
	for i, kid := range v.Kids {
		if v.Kind == api.Struct {
			out.WriteString("\x01" + chapterText(v.Names[i]))
		}
		out.WriteString(chapterValueKey(kid))
	}
	if v.Kind == api.Struct {
		return "\x80" + out.String() + "\x00"
	}
	return "\x70" + out.String() + "\x00"
}

// chapterKeys are keys, one behind the other.
func chapterKeys(l []api.Value) string {
	var out strings.Builder
	for _, v := range l {
		out.WriteString(chapterValueKey(v))
	}
	return out.String()
}

func chapterKey(l []api.Value) (string, api.Errno) {
	for _, v := range l {
		if e := value.Check(v); e != api.OK {
			return "", e
		}
	}
	return chapterKeys(l), api.OK
}

// chapterReader goes through a key, and panics where it is none.
type chapterReader struct{ left string }

func (r *chapterReader) must(is bool) {
	if !is {
		panic(api.ErrForm)
	}
}

func (r *chapterReader) byte() byte {
	r.must(r.left != "")
	b := r.left[0]
	r.left = r.left[1:]
	return b
}

func (r *chapterReader) text() string {
	var b []byte
	for {
		x := r.byte()
		if x != 0 {
			b = append(b, x)
			continue
		}
		x = r.byte()
		if x == 0 {
			return string(b)
		}
		r.must(x == 0xff)
		b = append(b, 0)
	}
}

func (r *chapterReader) number() api.Value {
	first := r.byte()
	if first == 0x80 {
		return num(0)
	}
	turned := func(x byte) byte { return x }
	if first < 0x80 {
		turned = func(x byte) byte { return 0xff - x }
	}
	e := int(turned(first)) - 0xc0
	r.must(-17 <= e && e <= 19)
	digits := ""
	for x := turned(r.byte()); x != 0; x = turned(r.byte()) {
		r.must(1 <= x && x <= 10)
		digits += string(rune('0' + x - 1))
		r.must(len(digits) <= 19)
	}
	r.must(digits != "" && digits[0] != '0' && digits[len(digits)-1] != '0')
	scale := len(digits) - e
	digits += strings.Repeat("0", max(-scale, 0))
	n, _ := new(big.Int).SetString(digits, 10)
	if first < 0x80 {
		n.Neg(n)
	}
	r.must(n.IsInt64())
	if scale <= 0 {
		return num(int(n.Int64()))
	}
	return dec(int(n.Int64()), scale)
}

func (r *chapterReader) value(deep int) (v api.Value) {
	r.must(deep <= 16)
	switch r.byte() {
	case 0x10:
		return null()
	case 0x20:
		return truth(int(r.byte()))
	case 0x30:
		return r.number()
	case 0x40:
		var n uint64
		for range 8 {
			n = n<<8 + uint64(r.byte())
		}
		r.must(n <= 1<<53)
		return clock(int(n))
	case 0x50:
		return text(r.text())
	case 0x60:
		return blob(r.text())
	case 0x70:
		v.Kind = api.List
		for r.must(r.left != ""); r.left[0] != 0; r.must(r.left != "") {
			v.Kids = append(v.Kids, r.value(deep+1))
		}
		r.byte()
		return v
	case 0x80:
		v.Kind = api.Struct
		x := r.byte()
		for ; x == 1; x = r.byte() {
			v.Names = append(v.Names, r.text())
			v.Kids = append(v.Kids, r.value(deep+1))
		}
		r.must(x == 0)
		return v
	}
	panic(api.ErrForm)
}

func chapterValues(k string) (l []api.Value, e api.Errno) {
	defer func() {
		if met := recover(); met != nil {
			l, e = nil, met.(api.Errno)
		}
	}()
	r := &chapterReader{left: k}
	for r.left != "" {
		v := r.value(1)
		r.must(value.Check(v) == api.OK)
		l = append(l, v)
	}
	return l, api.OK
}

// chapterCompare is the order of lists: value by value, the shorter one first.
func chapterCompare(a, b []api.Value) int {
	for i := range min(len(a), len(b)) {
		if c := value.Compare(a[i], b[i]); c != 0 {
			return c
		}
	}
	return min(max(len(a)-len(b), -1), 1)
}

func keys(t *testing.T, l []api.Value, want string, e api.Errno) {
	t.Helper()
	if k, f := Key(l); k != want || f != e {
		t.Errorf("Key(%s) = %s, %v, want %s, %v", short(l), shortKey(k), f, shortKey(want), e)
	}
}

func reads(t *testing.T, k string, want []api.Value, e api.Errno) {
	t.Helper()
	if l, f := Values(k); !slices.EqualFunc(l, want, alike) || f != e {
		t.Errorf("Values(%s) = %s, %v, want %s, %v", shortKey(k), short(l), f, short(want), e)
	}
}

func refuses(t *testing.T, k string) {
	t.Helper()
	reads(t, k, nil, api.ErrForm)
}

// both fails unless this is the key of these values, and these are the values of this key.
func both(t *testing.T, k string, l ...api.Value) {
	t.Helper()
	keys(t, l, k, api.OK)
	reads(t, k, l, api.OK)
}

func listAsTheChapter(t *testing.T, l []api.Value) {
	t.Helper()
	k, e := chapterKey(l)
	keys(t, l, k, e)
}

func keyAsTheChapter(t *testing.T, k string) {
	t.Helper()
	l, e := chapterValues(k)
	reads(t, k, l, e)
}

func above(t *testing.T, k, want string, has bool) {
	t.Helper()
	if s, ok := Above(k); s != want || ok != has {
		t.Errorf("Above(%s) = %s, %v, want %s, %v", shortKey(k), shortKey(s), ok, shortKey(want), has)
	}
}

// P8.1: Key and Values

func TestExamples(t *testing.T) {
	both(t, row("30 c2 03 06 00"), num(25))
	both(t, row("30 c1 03 06 00"), dec(25, 1))
	both(t, row("30 3d fc f9 ff"), num(-25))
	above(t, row("61 ff"), row("62"), true)
	above(t, row("ff"), "", false)
}

// Written out, of each class.
func TestEachClass(t *testing.T) {
	both(t, row("10"), null())
	both(t, row("20 00"), truth(0))
	both(t, row("20 01"), truth(1))
	both(t, row("30 80"), num(0))
	both(t, row("30 c1 02 00"), num(1))
	both(t, row("30 3e fd ff"), num(-1))
	both(t, row("30 c0 06 00"), dec(5, 1))
	both(t, row("30 3f f9 ff"), dec(-5, 1))
	both(t, row("30 c3 02 01 02 00"), num(101))
	both(t, row("30 c3 02 00"), num(100))
	both(t, row("30 3c fd fe fd ff"), num(-101))
	both(t, row("30 c1 02 06 00"), dec(15, 1))
	both(t, row("30 bf 0a 00"), dec(9, 2))
	both(t, row("40 00 00 00 00 00 00 00 00"), clock(0))
	both(t, row("40 00 00 00 00 00 00 01 2c"), clock(300))
	both(t, row("40 00 20 00 00 00 00 00 00"), clock(1<<53))
	both(t, row("50 00 00"), text(""))
	both(t, row("50 61 62 00 00"), text("ab"))
	both(t, row("50 ff 00 00"), text("\xff"))
	both(t, row("60 00 00"), blob(""))
	both(t, row("60 61 62 00 00"), blob("ab"))
	both(t, row("70 00"), list())
	both(t, row("70 10 10 00"), list(null(), null()))
	both(t, row("70 70 00 20 01 00"), list(list(), truth(1)))
	both(t, row("80 00"), record(""))
	both(t, row("80 01 61 00 00 10 00"), under("a", null()))
	both(t, row("80 01 61 00 00 30 c1 02 00 01 62 00 00 80 00 00"), record("a b", num(1), record("")))
}

func TestZerosWithin(t *testing.T) {
	for s, want := range map[string]string{
		"\x00": "00 ff", "\x00\x00": "00 ff 00 ff", "\x00a": "00 ff 61", "a\x00": "61 00 ff", "\x00\xff": "00 ff ff", "\xff\x00": "ff 00 ff", "a\x00b": "61 00 ff 62", "\x00\x01": "00 ff 01", "\x01\x00": "01 00 ff",
	} {
		both(t, row("50 "+want+" 00 00"), text(s))
		both(t, row("60 "+want+" 00 00"), blob(s))
		both(t, row("80 01 "+want+" 00 00 10 00"), under(s, null()))
		both(t, row("70 50 "+want+" 00 00 60 "+want+" 00 00 00"), list(text(s), blob(s)))
	}
}

// The keys stand one behind the other, with nothing between.
func TestSeveral(t *testing.T) {
	both(t, "")
	both(t, row("10 20 01 30 80"), null(), truth(1), num(0))
	both(t, row("30 c1 02 00 30 3e fd ff"), num(1), num(-1))
	both(t, row("50 00 00 50 00 ff 00 00 60 00 00"), text(""), text("\x00"), blob(""))
	both(t, row("70 00 80 00 70 10 00 10"), list(), record(""), list(null()), null())
	keys(t, nil, "", api.OK)
	keys(t, []api.Value{}, "", api.OK)
	all := append(ordinary(), greatest()...)
	both(t, chapterKeys(all), all...)
	slices.Reverse(all)
	both(t, chapterKeys(all), all...)
	both(t, rep("\x10", 1<<16), many(1<<16)...)
}

// Each e from -17 to 19, above nought and below.
func TestEachPower(t *testing.T) {
	for e := -17; e <= 19; e++ {
		for _, n := range []int{1, 2, 9, 12, 101} {
			v := num(n)
			digits := len(strconv.Itoa(n))
			switch {
			case e < digits && digits-e <= 18:
				v = dec(n, digits-e)
			case e < digits:
				// Too many behind the dot.
				continue
			default:
				for range e - digits {
					v.Int *= 10
				}
			}
			k := "\x30" + string([]byte{byte(0xc0 + e)})
			turned := "\x30" + string([]byte{byte(0x3f - e)})
			for _, d := range strconv.Itoa(n) {
				k += string([]byte{byte(d-'0') + 1})
				turned += string([]byte{0xfe - byte(d-'0')})
			}
			both(t, k+"\x00", v)
			v.Int = -v.Int
			both(t, turned+"\xff", v)
		}
	}
}

func TestGreatestNumbers(t *testing.T) {
	both(t, row("30 d3 0a 03 03 04 04 08 03 01 04 07 09 06 05 08 08 06 09 01 08 00"), num(math.MaxInt))
	both(t, row("30 2c f5 fc fc fb fb f7 fc fe fb f8 f6 f9 fa f7 f7 f9 f6 fe f6 ff"), num(math.MinInt))
	both(t, row("30 c1 0a 03 03 04 04 08 03 01 04 07 09 06 05 08 08 06 09 01 08 00"), dec(math.MaxInt, 18))
	both(t, row("30 3e f5 fc fc fb fb f7 fc fe fb f8 f6 f9 fa f7 f7 f9 f6 fe f6 ff"), dec(math.MinInt, 18))
	both(t, row("30 af 02 00"), dec(1, 18))
	both(t, row("30 50 fd ff"), dec(-1, 18))
	// One more is no number: 2^63, -2^63 - 1, and as Decimals.
	refuses(t, row("30 d3 0a 03 03 04 04 08 03 01 04 07 09 06 05 08 08 06 09 01 09 00"))
	refuses(t, row("30 2c f5 fc fc fb fb f7 fc fe fb f8 f6 f9 fa f7 f7 f9 f6 fe f5 ff"))
	refuses(t, row("30 c1 0a 03 03 04 04 08 03 01 04 07 09 06 05 08 08 06 09 01 09 00"))
	refuses(t, row("30 3e f5 fc fc fb fb f7 fc fe fb f8 f6 f9 fa f7 f7 f9 f6 fe f5 ff"))
	// 9.3 times ten to 18, 9999999999999999999, 18446744073709551617: 2^64 + 1.
	refuses(t, row("30 d3 0a 04 00"))
	refuses(t, row("30 2c f5 fb ff"))
	refuses(t, "\x30\xd3"+rep("\x0a", 19)+"\x00")
	refuses(t, row("30 d4 02 09 05 05 07 08 05 05 01 08 04 08 01 0a 06 06 02 07 02 08 00"))
}

func TestOrdinaryAndGreatest(t *testing.T) {
	for _, v := range append(ordinary(), greatest()...) {
		both(t, chapterValueKey(v), v)
		both(t, chapterKeys([]api.Value{v, v, null()}), v, v, null())
		if _, deep := value.Size(v); deep < api.MaxDeep {
			both(t, chapterKeys([]api.Value{list(v, v), under("x", v)}), list(v, v), under("x", v))
		}
	}
}

// P8.1: the errors of Key

func TestKeyErrors(t *testing.T) {
	for _, f := range faults() {
		if e := value.Check(f.v); e != f.e {
			t.Fatalf("Check(%s) = %v, want %v", short([]api.Value{f.v}), e, f.e)
		}
		keys(t, []api.Value{f.v}, "", f.e)
		keys(t, []api.Value{num(1), f.v}, "", f.e)
		keys(t, []api.Value{f.v, num(1)}, "", f.e)
		keys(t, append(many(300), f.v), "", f.e)
	}
}

// Of several that are wrong the first one counts, whichever they are.
func TestFirstErrorOfKey(t *testing.T) {
	all := faults()
	for _, f := range all {
		for _, g := range all {
			keys(t, []api.Value{f.v, g.v}, "", f.e)
			keys(t, []api.Value{num(1), f.v, text("a"), g.v, null()}, "", f.e)
		}
	}
	keys(t, []api.Value{letters(1<<14 + 1), nested(null(), 16), {}}, "", api.ErrLong)
	keys(t, []api.Value{nested(null(), 16), {}, letters(1<<14 + 1)}, "", api.ErrDeep)
	keys(t, []api.Value{{}, letters(1<<14 + 1), nested(null(), 16)}, "", api.ErrForm)
}

// A list of kids that is within itself ends, too.
func TestKeyOfWhatIsWithinItself(t *testing.T) {
	v := list(null())
	v.Kids[0] = v
	keys(t, []api.Value{num(1), v}, "", api.ErrDeep)
}

// P8.1: bytes that are no key

// A key that ends early is none, unless a value ends there.
func TestKeyThatEnds(t *testing.T) {
	for _, v := range append(ordinary(), greatest()[7:14]...) {
		k := chapterValueKey(v)
		for n := 1; n < len(k); n += 1 + n/200 {
			refuses(t, k[:n])
			refuses(t, "\x10"+k[:n])
		}
	}
}

// Something behind is either a value or makes all of it no key.
func TestSomethingBehind(t *testing.T) {
	for _, v := range append(ordinary(), greatest()...) {
		k := chapterValueKey(v)
		for x := range 256 {
			if x == 0x10 {
				both(t, k+"\x10", v, null())
				continue
			}
			refuses(t, k+string([]byte{byte(x)}))
		}
		for _, ill := range []string{"\x20\x02", "\x50\x00", "\x70", "\x00\x00"} {
			refuses(t, k+ill)
			refuses(t, ill+k)
		}
	}
}

func TestClassThatIsNone(t *testing.T) {
	for x := range 256 {
		class := string([]byte{byte(x)})
		keyAsTheChapter(t, class)
		if x > 0 && x <= 0x80 && x%16 == 0 {
			continue
		}
		for _, rest := range []string{"", "\x00", "\x01", "\x10", "\x80", "\x00\x00", "ab\x00\x00", rep("\x00", 8), "\xc1\x02\x00"} {
			refuses(t, class+rest)
			refuses(t, "\x10"+class+rest)
			if x > 0 {
				refuses(t, "\x70"+class+rest+"\x00")
			}
			refuses(t, "\x80\x01a\x00\x00"+class+rest+"\x00")
		}
	}
}

func TestBools(t *testing.T) {
	for x := range 256 {
		k := string([]byte{0x20, byte(x)})
		if x <= 1 {
			both(t, k, truth(x))
			continue
		}
		refuses(t, k)
		refuses(t, "\x70"+k+"\x00")
	}
}

func TestTimes(t *testing.T) {
	refuses(t, row("40 00 20 00 00 00 00 00 01"))
	refuses(t, row("40 7f ff ff ff ff ff ff ff"))
	refuses(t, row("40 80 00 00 00 00 00 00 00"))
	refuses(t, row("40 80 00 00 00 00 00 00 05"))
	refuses(t, row("40 ff ff ff ff ff ff ff ff"))
	refuses(t, row("40"))
	refuses(t, row("40 00 00 00 00 00 00 01"))
	for i := range 64 {
		keyAsTheChapter(t, string(binary.BigEndian.AppendUint64([]byte{0x40}, 1<<i)))
		keyAsTheChapter(t, string(binary.BigEndian.AppendUint64([]byte{0x40}, 1<<i-1)))
	}
}

// turnedRow is a key's bytes behind its class, each turned round: those of the number below nought.
func turnedRow(s string) string {
	b := []byte(s)
	for i := range b {
		b[i] = 0xff - b[i]
	}
	return string(b)
}

func refusesNumber(t *testing.T, rest string) {
	t.Helper()
	for _, k := range []string{"\x30" + rest, "\x30" + turnedRow(rest)} {
		refuses(t, k)
		refuses(t, k+"\x10")
		refuses(t, "\x70"+k+"\x00")
		refuses(t, k+k)
	}
}

func TestNumbersThatAreNone(t *testing.T) {
	for _, rest := range []string{
		"c2 03 01 00", "c2 01 00", "c2 03 06 01 00", "c2 03 06 01 01 00", "c2 01 01 01 00", // a nought at the end
		"c2 01 03 00", "c3 01 03 06 00", "c0 01 01 02 00", // a nought at the beginning
		"c2 0b 00", "c2 03 0b 00", "c2 0b 03 00", "c2 03 ff 00", "c2 80 00", "c2 0c 00", // a digit above 9
		"c1 00", "c0 00", "d3 00", "af 00", "c1", "c1 02", "c2 03 06", // no digit, no end
		"d4 02 00", "d5 02 00", "ff 02 00", "ae 02 00", "a0 02 00", "81 02 00", "d4 0a 00", // an e that no value has
		"af 02 02 00", "b0 02 02 02 00", // too many behind the dot
	} {
		refusesNumber(t, row(rest))
	}
	refuses(t, "\x30")
	// Nought turned round is the first byte of a number that is none, and the way round of the end is not the end.
	refuses(t, row("30 7f"))
	refuses(t, row("30 7f ff"))
	refuses(t, row("30 c2 03 06 ff"))
	refuses(t, row("30 3d fc f9 00"))
	refuses(t, row("30 3d 03 06 ff"))
	refuses(t, row("30 80 00"))
	refuses(t, row("30 00"))
	refuses(t, row("30 00 00"))
	refuses(t, row("30 ff 00"))
	// Twenty digits and more, however many: no number has them.
	for n := 20; n < 300; n++ {
		for _, power := range []string{"\xc0", "\xc1", "\xd3", "\xff", "\x80", "\xaf"} {
			refuses(t, "\x30"+power+rep("\x02", n)+"\x00")
			refuses(t, "\x30"+turnedRow(power+rep("\x02", n)+"\x00"))
		}
	}
}

// All first bytes, with few digits and bytes that are no digits.
func TestEveryFewBytesOfANumber(t *testing.T) {
	some := []byte{0x00, 0x01, 0x02, 0x03, 0x0a, 0x0b, 0x10, 0x80, 0xf4, 0xf5, 0xf6, 0xfd, 0xfe, 0xff}
	for first := range 256 {
		k := []byte{0x30, byte(first), 0, 0, 0, 0}
		for _, k[2] = range some {
			keyAsTheChapter(t, string(k[:3]))
			for _, k[3] = range some {
				keyAsTheChapter(t, string(k[:4]))
				for _, k[4] = range some {
					keyAsTheChapter(t, string(k[:5]))
				}
			}
		}
	}
}

// Every e with every count of digits.
func TestEveryPowerWithEveryCount(t *testing.T) {
	for first := range 256 {
		for n := range 24 {
			for _, d := range []string{"\x02", "\x0a", "\x05"} {
				k := string([]byte{byte(first)}) + rep(d, n) + "\x00"
				keyAsTheChapter(t, "\x30"+k)
				keyAsTheChapter(t, "\x30"+turnedRow(k))
			}
		}
	}
}

func TestTextsThatAreNone(t *testing.T) {
	for x := range 256 {
		if x == 0 || x == 0xff {
			continue
		}
		ill := "\x00" + string([]byte{byte(x)})
		for _, s := range []string{ill, "a" + ill, ill + "a", "\x00\xff" + ill, ill + "\x00\xff", "ab" + ill + ill} {
			refuses(t, "\x50"+s+"\x00\x00")
			refuses(t, "\x60"+s+"\x00\x00")
			refuses(t, "\x80\x01"+s+"\x00\x00\x10\x00")
			refuses(t, "\x70\x50"+s+"\x00\x00\x00")
		}
	}
	for _, k := range []string{"\x50", "\x50\x00", "\x50a", "\x50a\x00", "\x50a\x00\xff", "\x50\x00\xff\x00", "\x60a\x00", "\x50a\x00\x01", "\x50\x00\x00\x00", "\x50a\x00\x00\xff\x00\x00"} {
		refuses(t, k)
	}
}

func TestListsAndStructsThatAreNone(t *testing.T) {
	for _, k := range []string{
		"70", "70 10", "70 10 01", "70 70 00", "70 00 00", "70 01 00", "70 90 00",
		"80", "80 02", "80 10", "80 10 00", "80 01", "80 01 61", "80 01 61 00", "80 01 61 00 00", "80 01 61 00 00 10", "80 01 61 00 00 00", "80 02 61 00 00 10 00", "80 01 61 00 00 10 02", "80 01 61 00 00 10 10 00", "80 00 00",
		"80 01 00 00 10 00", "80 01 62 00 00 10 01 61 00 00 10 00", "80 01 61 00 00 10 01 61 00 00 10 00", "80 01 61 00 ff 00 00 10 01 61 00 00 10 00",
	} {
		refuses(t, row(k))
		refuses(t, "\x10"+row(k))
		refuses(t, "\x50\x00\x00"+row(k))
	}
}

// What Check refuses is no value of a key, whichever error it is.
func TestValuesThatCheckRefuses(t *testing.T) {
	for _, f := range writtenFaults() {
		k := chapterValueKey(f.v)
		refuses(t, k)
		refuses(t, "\x10"+k)
		refuses(t, k+"\x10")
		refuses(t, "\x70"+k+"\x00")
		refuses(t, "\x80\x01a\x00\x00"+k+"\x00")
	}
}

// W1: far too deep, far too long, far too many.
func TestGreatKeys(t *testing.T) {
	const n = 1 << 22
	for _, s := range []string{"\x70", "\x80", "\x80\x01a\x00\x00", "\x70\x10", "\x30", "\x40", "\x50", "\x50\x00", "\x00", "\xff", "\x80\x01"} {
		refuses(t, rep(s, n/len(s)))
	}
	refuses(t, rep("\x70", 20)+rep("\x00", 20))
	refuses(t, rep("\x70", n)+rep("\x00", n))
	for _, s := range []string{"a", "\xff", "\x00\xff", "\x01"} {
		refuses(t, "\x50"+rep(s, n)+"\x00\x00")
		refuses(t, "\x80\x01"+rep(s, n)+"\x00\x00\x10\x00")
		refuses(t, "\x50"+rep(s, n))
	}
	for _, s := range []string{"\x01", "\x02", "\x0a", "\xff"} {
		refuses(t, "\x30\xc1"+rep(s, n)+"\x00")
		refuses(t, "\x30\xc1"+rep(s, n))
		refuses(t, "\x30\x3e"+turnedRow(rep(s, n))+"\xff")
	}
}

// W1: a key of which the values in memory would be many times greater is refused without them.
func TestGreatKeysTakeLittleMemory(t *testing.T) {
	long := rep("\x10", 1<<23)
	fields := rep("\x01\x00\x00\x10", 1<<21)
	var before, behind runtime.MemStats
	runtime.ReadMemStats(&before)
	refuses(t, "\x70"+long+"\x00")
	refuses(t, "\x70\x70"+long+"\x00\x00")
	refuses(t, "\x80"+fields+"\x00")
	runtime.ReadMemStats(&behind)
	if grown := int(behind.TotalAlloc) - int(before.TotalAlloc); grown > 1<<27 {
		t.Errorf("%d bytes take %d of memory", len(long), grown)
	}
}

// Many keys against the chapter

func TestEveryFewBytes(t *testing.T) {
	for a := range 256 {
		keyAsTheChapter(t, string([]byte{byte(a)}))
		for b := range 256 {
			keyAsTheChapter(t, string([]byte{byte(a), byte(b)}))
			for _, c := range []byte{0x00, 0x01, 0x10, 0x20, 0x80, 0xff} {
				keyAsTheChapter(t, string([]byte{byte(a), byte(b), c}))
			}
		}
	}
}

func TestEveryRowOfSomeBytes(t *testing.T) {
	some := []byte{0x00, 0x01, 0x02, 0x10, 0x20, 0x30, 0x50, 0x70, 0x80, 0xc1, 0xff}
	b := make([]byte, 0, 5)
	var each func()
	each = func() {
		keyAsTheChapter(t, string(b))
		if len(b) == cap(b) {
			return
		}
		for _, x := range some {
			b = append(b, x)
			each()
			b = b[:len(b)-1]
		}
	}
	each()
}

// maker makes values out of bytes: the same of the same bytes.
type maker struct {
	from []byte
	ill  bool // now and then what is no value
}

func (m *maker) next() int {
	if len(m.from) == 0 {
		return 0
	}
	b := m.from[0]
	m.from = m.from[1:]
	return int(b)
}

// pick is one of these.
func pick[T any](m *maker, of ...T) T { return of[m.next()%len(of)] }

func (m *maker) name() string {
	if m.ill && m.next()%16 == 0 {
		return pick(m, "", rep("n", 40), rep("n", 41))
	}
	return pick(m, "a", "b", "ab", "c", "\x00", "\xff", "a\x00", "é", "\x01\x08", "\x00\x00", "\x00a", "\x00\xff", "\x01")
}

func (m *maker) number() int {
	n := pick(m, 0, 1, -1, 2, 9, 10, 25, -25, 100, -100, 99, math.MaxInt, math.MinInt, 1<<53, 1<<53+1, 1e18, -1e18, m.next()-128, m.next()<<8+m.next())
	if m.next()%8 == 0 {
		n += m.next() - 128
	}
	return n
}

func (m *maker) value(deep int) api.Value {
	v := api.Value{Kind: m.next()%9 + 1}
	switch v.Kind {
	case api.Bool:
		v.Int = m.next() % 2
		if m.ill && m.next()%8 == 0 {
			v.Int = m.next()
		}
	case api.Int:
		v.Int = m.number()
	case api.Decimal:
		v.Int, v.Scale = m.number(), m.next()%18+1
		if m.ill && m.next()%8 == 0 {
			v.Scale = m.next() % 30
		}
		if !m.ill && v.Int%10 == 0 {
			v.Int++
		}
	case api.Time:
		v.Int = m.next()<<16 + m.next()
		if m.ill {
			v.Int = m.number()
		}
	case api.Text, api.Blob:
		v.Text = rep(m.name(), pick(m, 0, 1, 1, 2, 60))
		if m.ill && m.next()%16 == 0 {
			v.Text = rep("x", pick(m, 1<<14, 1<<14+1))
		}
	case api.List, api.Struct:
		m.kids(&v, deep)
	}
	return v
}

func (m *maker) kids(v *api.Value, deep int) {
	n := m.next() % 5
	if deep >= 6 && !m.ill || deep > 20 {
		n = 0
	}
	for range n {
		v.Kids = append(v.Kids, m.value(deep+1))
		if v.Kind == api.Struct {
			v.Names = append(v.Names, m.name())
		}
	}
	if m.ill && m.next()%24 == 0 {
		v.Kids = append(v.Kids, nested(null(), m.next()%18))
		v.Names = append(v.Names, m.name())[:len(v.Names)+v.Kind-api.List]
	}
	if v.Kind == api.Struct && !(m.ill && m.next()%4 == 0) {
		slices.Sort(v.Names)
		v.Names = slices.Compact(v.Names)
		v.Kids = v.Kids[:len(v.Names)]
	}
}

func (m *maker) list() []api.Value {
	var l []api.Value
	for range m.next() % 4 {
		l = append(l, m.value(1))
	}
	return l
}

func bytesOf(r *rand.Rand, n int) []byte {
	b := make([]byte, n)
	r.Read(b)
	return b
}

// spoilt is a key of which some bytes are others, missing or too many.
func spoilt(r *rand.Rand, k string) string {
	b := []byte(k)
	some := []byte{0x00, 0x01, 0x02, 0x0a, 0x0b, 0x10, 0x30, 0x50, 0x70, 0x80, 0xc1, 0xfe, 0xff}
	for range 1 + r.Intn(2) {
		at := r.Intn(len(b) + 1)
		x := byte(r.Intn(256))
		if r.Intn(2) == 0 {
			x = some[r.Intn(len(some))]
		}
		switch r.Intn(4) {
		case 0:
			b = b[:at]
		case 1:
			b = slices.Insert(b, at, x)
		case 2:
			b = slices.Delete(b, at, min(at+1, len(b)))
		case 3:
			if at < len(b) {
				b[at] = x
			}
		}
	}
	return string(b)
}

func TestManyAsTheChapter(t *testing.T) {
	r := rand.New(rand.NewSource(8))
	for range 30000 {
		m := &maker{from: bytesOf(r, 100), ill: r.Intn(2) == 0}
		l := m.list()
		listAsTheChapter(t, l)
		k := chapterKeys(l)
		keyAsTheChapter(t, k)
		keyAsTheChapter(t, spoilt(r, k))
		keyAsTheChapter(t, spoilt(r, k))
		keyAsTheChapter(t, string(bytesOf(r, r.Intn(12))))
	}
}

// P8.2: Above

func TestAbove(t *testing.T) {
	above(t, "", "", false)
	for _, n := range []int{1, 2, 3, 100} {
		ff := rep("\xff", n)
		above(t, ff, "", false)
		above(t, "a"+ff, "b", true)
		above(t, "\x00"+ff, "\x01", true)
		above(t, "\xfe"+ff, "\xff", true)
		above(t, "a\xfe"+ff, "a\xff", true)
		above(t, ff+"a"+ff, ff+"b", true)
		above(t, ff+"\x00", ff+"\x01", true)
		above(t, ff+"\xfe", ff+"\xff", true)
	}
	above(t, "ab", "ac", true)
	above(t, "\x00", "\x01", true)
	above(t, "\x00\x00", "\x00\x01", true)
	above(t, "\x7f", "\x80", true)
	above(t, "a\x80", "a\x81", true)
	above(t, "é", "\xc3\xaa", true)
	above(t, rep("x", 1<<20), rep("x", 1<<20-1)+"y", true)
	above(t, "x"+rep("\xff", 1<<20), "y", true)
	for x := range 255 {
		for _, head := range []string{"", "a", "\x00", "\xff", "\xff\xff"} {
			above(t, head+string([]byte{byte(x)}), head+string([]byte{byte(x + 1)}), true)
			above(t, head+string([]byte{byte(x), 0xff}), head+string([]byte{byte(x + 1)}), true)
		}
	}
}

// someTexts are all texts of at most three bytes out of these.
func someTexts() []string {
	some := []string{"\x00", "\x01", "a", "b", "\x7f", "\x80", "\xfe", "\xff"}
	out := []string{""}
	for from := 0; len(out) < 1+8+64+512; {
		to := len(out)
		for _, s := range out[from:to] {
			for _, x := range some {
				out = append(out, s+x)
			}
		}
		from = to
	}
	return out
}

// The least text that is above all: what is below it is below one that begins with k, too.
func TestAboveIsTheLeast(t *testing.T) {
	texts := someTexts()
	for _, k := range texts {
		// No text of at most three bytes is greater than this one unless all that begin with k are less.
		top := k + rep("\xff", 4)
		s, ok := Above(k)
		for _, x := range texts {
			if strings.HasPrefix(x, k) && ok && x >= s {
				t.Fatalf("Above(%s) = %s, but %s begins so", shortKey(k), shortKey(s), shortKey(x))
			}
			if x > top != (ok && x >= s) {
				t.Fatalf("Above(%s) = %s, %v, and there is %s", shortKey(k), shortKey(s), ok, shortKey(x))
			}
		}
	}
}

// The keys of lists that begin with some values are all those from their key on, below what is above it.
func TestAboveOfKeys(t *testing.T) {
	values := append(ordinary(), greatest()[7:14]...)
	for i, v := range values {
		k, _ := Key([]api.Value{v})
		s, ok := Above(k)
		if !ok {
			t.Fatalf("nothing is above %s", shortKey(k))
		}
		for j, w := range values {
			x, _ := Key([]api.Value{w, v})
			if is := k <= x && x < s; is != value.Same(v, w) {
				t.Fatalf("%d %d: %s to %s has %s: %v", i, j, shortKey(k), shortKey(s), shortKey(x), is)
			}
		}
	}
}

// P8.3

func TestKeysSortAsValues(t *testing.T) {
	values := append(ordinary(), greatest()...)
	all := make([]string, len(values))
	for i, v := range values {
		all[i], _ = Key([]api.Value{v})
	}
	for i, a := range values {
		for j, b := range values {
			if c := strings.Compare(all[i], all[j]); c != value.Compare(a, b) {
				t.Fatalf("%s and %s: %d, but the values are %d", shortKey(all[i]), shortKey(all[j]), c, value.Compare(a, b))
			}
		}
	}
}

// Numbers by what they are, held against fractions of the library.
func TestKeysSortAsNumbers(t *testing.T) {
	values := numbers()
	rats := make([]*big.Rat, len(values))
	all := make([]string, len(values))
	for i, v := range values {
		ten := new(big.Int).Exp(big.NewInt(10), big.NewInt(int64(v.Scale)), nil)
		rats[i] = new(big.Rat).SetFrac(big.NewInt(int64(v.Int)), ten)
		all[i], _ = Key([]api.Value{v})
	}
	for i := range values {
		for j := range values {
			if c := strings.Compare(all[i], all[j]); c != rats[i].Cmp(rats[j]) {
				t.Fatalf("%s of %s and %s of %s: %d", shortKey(all[i]), rats[i].RatString(), shortKey(all[j]), rats[j].RatString(), c)
			}
		}
	}
}

// fewLists are lists of no value, of one, of two and of three, many of them alike at their beginning.
func fewLists() [][]api.Value {
	some := []api.Value{null(), num(0), num(-1), num(-15), dec(-15, 1), num(1), num(10), dec(15, 1), text(""), text("\x00"), text("a"), text("a\x00"), list(), list(null()), under("a", null()), under("a\x00", num(-1))}
	out := [][]api.Value{nil}
	for _, a := range some {
		out = append(out, []api.Value{a})
		for i, b := range some {
			out = append(out, []api.Value{a, b}, []api.Value{a, b, some[(i*7+3)%len(some)]})
		}
	}
	return out
}

func TestKeysSortAsLists(t *testing.T) {
	lists := fewLists()
	all := make([]string, len(lists))
	for i, l := range lists {
		all[i], _ = Key(l)
	}
	for i, a := range lists {
		for j, b := range lists {
			if c := strings.Compare(all[i], all[j]); c != chapterCompare(a, b) {
				t.Fatalf("%s and %s: %d, but the lists are %d", shortKey(all[i]), shortKey(all[j]), c, chapterCompare(a, b))
			}
		}
	}
}

// So are the keys of Lists and Structs with these within.
func TestKeysSortAsNestedLists(t *testing.T) {
	lists := fewLists()[:300]
	nests := make([][]api.Value, len(lists))
	all := make([]string, len(lists))
	for i, l := range lists {
		nests[i] = []api.Value{list(l...), null()}
		if i%3 == 0 {
			nests[i] = []api.Value{api.Value{Kind: api.Struct, Names: []string{"a", "b", "c"}[:len(l)], Kids: l}, null()}
		}
		all[i], _ = Key(nests[i])
	}
	for i, a := range nests {
		for j, b := range nests {
			if c := strings.Compare(all[i], all[j]); c != chapterCompare(a, b) {
				t.Fatalf("%s and %s: %d, but the lists are %d", shortKey(all[i]), shortKey(all[j]), c, chapterCompare(a, b))
			}
		}
	}
}

func TestManyKeysSortAsLists(t *testing.T) {
	r := rand.New(rand.NewSource(83))
	var last []api.Value
	for range 50000 {
		m := &maker{from: bytesOf(r, 40)}
		l := m.list()
		// Now and then one that is alike for a while.
		if r.Intn(2) == 0 && len(last) > 0 {
			l = append(slices.Clone(last[:r.Intn(len(last)+1)]), l...)
		}
		a, _ := Key(l)
		b, _ := Key(last)
		if c := strings.Compare(a, b); c != chapterCompare(l, last) {
			t.Fatalf("%s and %s: %d, but the lists are %d", shortKey(a), shortKey(b), c, chapterCompare(l, last))
		}
		last = l
	}
}

func same(a, b []api.Value) bool { return slices.EqualFunc(a, b, value.Same) }

func TestValuesOfKeyAreTheValues(t *testing.T) {
	lists := append(fewLists(), append(ordinary(), greatest()...), numbers(), zeros())
	for _, l := range lists {
		k, e := Key(l)
		if e != api.OK {
			t.Fatalf("Key(%s): %v", short(l), e)
		}
		if got, e := Values(k); e != api.OK || !same(got, l) {
			t.Errorf("Values of Key of %s = %s, %v", short(l), short(got), e)
		}
	}
}

// What Values takes has one form: of all that is taken, Key makes just this.
func TestWhatValuesTakesIsWhatKeyMakes(t *testing.T) {
	r := rand.New(rand.NewSource(84))
	taken := 0
	for _, v := range append(ordinary(), greatest()...) {
		whole := chapterValueKey(v)
		if len(whole) > 1<<16 {
			continue
		}
		for range 100 {
			k := spoilt(r, whole)
			l, e := Values(k)
			if e != api.OK {
				continue
			}
			taken++
			keys(t, l, k, api.OK)
		}
	}
	if taken < 1000 {
		t.Errorf("only %d were taken", taken)
	}
}

// A field that its Kind does not name has nothing, and no list has an element too many.
func TestAnswersHaveNothingElse(t *testing.T) {
	for _, v := range append(ordinary(), greatest()...) {
		l, e := Values(chapterValueKey(v))
		if e != api.OK || len(l) != 1 || value.Check(l[0]) != api.OK {
			t.Fatalf("Values of the key of %s: %s, %v", short([]api.Value{v}), short(l), e)
		}
		if v.Kind == api.List && l[0].Names != nil {
			t.Errorf("a list with names: %s", short(l))
		}
	}
}

// W6, W7: what is handed in and what is answered

// spared is a list in memory of its own, each list of it with spare room behind its end.
func spared(l []api.Value) []api.Value {
	out := make([]api.Value, len(l)+2)
	for i, v := range l {
		names := make([]string, len(v.Names)+2)
		copy(names, v.Names)
		names[len(v.Names)] = "spare"
		v.Names, v.Kids = names[:len(v.Names)], spared(v.Kids)
		out[i] = v
	}
	out[len(l)] = text("spare")
	return out[:len(l)]
}

// whole is all of a list as a text, spare room too.
func whole(l []api.Value) string {
	var out strings.Builder
	fmt.Fprintf(&out, "%d[", len(l))
	for _, v := range l[:cap(l)] {
		fmt.Fprintf(&out, "%d %d %d %q %q %s", v.Kind, v.Int, v.Scale, v.Text, v.Names[:cap(v.Names)], whole(v.Kids))
	}
	return out.String() + "]"
}

// turn makes all memory of a list another one, spare room too.
func turn(l []api.Value) {
	l = l[:cap(l)]
	for i, v := range l {
		for j := range v.Names[:cap(v.Names)] {
			v.Names[:cap(v.Names)][j] += "turned"
		}
		turn(v.Kids)
		l[i] = api.Value{Kind: -v.Kind, Int: ^v.Int, Text: v.Text + "turned"}
	}
}

// samples are what Key is given here, values and others.
func samples() [][]api.Value {
	shared := list(num(1), list(text("x"), under("y", blob("z"))))
	out := [][]api.Value{{record("a b c", shared, shared, list(shared, shared))}, {list(shared, shared), shared, shared}, {wide(20), wide(20)}, {nested(text("in"), 15)}, {null(), nested(null(), 16)}, {record("b a", shared, shared)}, {shared, {}}, nil, ordinary(), many(300)}
	for _, v := range ordinary()[:150] {
		out = append(out, []api.Value{v}, []api.Value{v, v})
	}
	return out
}

// rows are keys that Values takes or refuses.
func rows() []string {
	var out []string
	for _, l := range samples() {
		// What is no value at all has no bytes.
		l = slices.DeleteFunc(slices.Clone(l), func(v api.Value) bool { return v.Kind == 0 })
		k := chapterKeys(l)
		out = append(out, k, k+"\x10", k+"\x00", k[:max(len(k)-1, 0)])
	}
	return append(out, "\x70", "\x50a\x00\x01", "\x30\xc2\x03\x01\x00", "\x20\x02", "\x90")
}

func TestKeyHandedInIsNotChanged(t *testing.T) {
	for _, l := range samples() {
		given := spared(l)
		before := whole(given)
		k, e := Key(given)
		if whole(given) != before {
			t.Errorf("Key(%s) changes it", short(l))
		}
		keys(t, given, k, e)
	}
}

func TestKeyHandedInIsNotKept(t *testing.T) {
	for _, l := range samples() {
		given := spared(l)
		k, e := Key(given)
		want := strings.Clone(k)
		turn(given)
		if k != want {
			t.Errorf("Key(%s): the answer shares memory with it", short(l))
		}
		keys(t, l, want, e)
	}
}

// within tells whether a text stands in the memory of another one.
func within(s, all string) bool {
	if s == "" || all == "" {
		return false
	}
	at, from := uintptr(unsafe.Pointer(unsafe.StringData(s))), uintptr(unsafe.Pointer(unsafe.StringData(all)))
	return from <= at && at < from+uintptr(len(all))
}

// eachText goes through all texts and names of a list.
func eachText(l []api.Value, do func(s string)) {
	for _, v := range l {
		do(v.Text)
		for _, name := range v.Names {
			do(name)
		}
		eachText(v.Kids, do)
	}
}

func TestTextsAreNewMemory(t *testing.T) {
	for _, k := range rows() {
		l, e := Values(k)
		eachText(l, func(s string) {
			// The library has one text of each single byte.
			if len(s) > 1 && within(s, k) {
				t.Errorf("Values(%s): %q stands in the key", shortKey(k), s)
			}
		})
		again, _ := Key(l)
		if e == api.OK && within(again, k) {
			t.Errorf("Key of Values of %s is the key itself", shortKey(k))
		}
		if s, ok := Above(k); ok && len(s) > 1 && within(s, k) {
			t.Errorf("Above(%s) stands in it", shortKey(k))
		}
	}
}

// places counts where each element of each list stands, spare room too.
func places(l []api.Value, count map[any]int) {
	l = l[:cap(l)]
	for i, v := range l {
		count[&l[i]]++
		names := v.Names[:cap(v.Names)]
		for j := range names {
			count[&names[j]]++
		}
		places(v.Kids, count)
	}
}

func TestValuesAnswersAreNewMemory(t *testing.T) {
	for _, k := range rows() {
		first, _ := Values(k)
		second, _ := Values(k)
		count := map[any]int{}
		places(first, count)
		places(second, count)
		for _, n := range count {
			if n != 1 {
				t.Fatalf("Values(%s): one place is in %d lists that are answered", shortKey(k), n)
			}
		}
		turn(second)
		keyAsTheChapter(t, k)
	}
}

func TestAnswersStay(t *testing.T) {
	var lists [][]api.Value
	var said, made, copies []string
	for _, k := range rows() {
		l, _ := Values(k)
		s, _ := Above(k)
		lists, said = append(lists, l), append(said, whole(l))
		made, copies = append(made, s), append(copies, strings.Clone(s))
	}
	for i, l := range lists {
		k, _ := Key(l)
		made, copies = append(made, k), append(copies, strings.Clone(k))
		Values(k)
		Above(k)
		if whole(l) != said[i] {
			t.Fatalf("the answer %s became another one", said[i])
		}
	}
	if !slices.Equal(made, copies) {
		t.Error("texts that were answered became others")
	}
}

// W2: calls side by side answer as they do alone.
func TestSideBySide(t *testing.T) {
	all := append(ordinary(), greatest()...)
	var group sync.WaitGroup
	for range 8 {
		group.Go(func() {
			for _, v := range all {
				listAsTheChapter(t, []api.Value{v, v})
				keyAsTheChapter(t, chapterValueKey(v)+"\x10")
				above(t, "a\xff", "b", true)
			}
		})
	}
	group.Wait()
}

// W1: whatever bytes come, every call ends and answers what the chapter says.
func FuzzAnyBytes(f *testing.F) {
	for _, k := range rows() {
		if len(k) < 1000 {
			f.Add([]byte(k))
		}
	}
	heads := []string{"\x30", "\x30\xc1", "\x30\x3e", "\x40\x00", "\x50", "\x60\x00", "\x70", "\x80\x01", "\x80\x01a\x00\x00", rep("\x70", 15), rep("\x70", 16)}
	f.Fuzz(func(t *testing.T, b []byte) {
		k := string(b)
		keyAsTheChapter(t, k)
		// Any bytes behind these, and ahead of an end, reach what a fuzzer hardly finds.
		for _, head := range heads {
			keyAsTheChapter(t, head+k)
			keyAsTheChapter(t, head+k+"\x00")
			keyAsTheChapter(t, head+k+"\x00\x00")
		}
		if s, ok := Above(k); ok == (strings.Count(k, "\xff") == len(k)) || ok && s <= k+"\xff\xff" {
			t.Errorf("Above(%s) = %s, %v", shortKey(k), shortKey(s), ok)
		}
		m := &maker{from: b, ill: len(b)%2 == 0}
		l := m.list()
		listAsTheChapter(t, l)
		keyAsTheChapter(t, chapterKeys(l))
	})
}
