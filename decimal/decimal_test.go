package decimal

import (
	"fmt"
	"math"
	"math/big"
	"math/rand"
	"regexp"
	"slices"
	"strconv"
	"strings"
	"sync"
	"testing"

	"scrivener/api"
	"scrivener/value"
)

const (
	maxInt = math.MaxInt64
	minInt = math.MinInt64
	tenth  = 922337203685477580 // of the greatest int, without what is left
	tens18 = 1000000000000000000
	fives  = 7450580596923828125 // five to 27
)

func num(n int) api.Value    { return api.Value{Kind: api.Int, Int: n} }
func dec(n, s int) api.Value { return api.Value{Kind: api.Decimal, Int: n, Scale: s} }

type (
	oneCall  = func(a api.Value) (api.Value, api.Errno)
	twoCalls = func(a, b api.Value) (api.Value, api.Errno)
)

// The chapter, in whole numbers of any size and in texts: what the tests hold the answers against.

func power(n int) *big.Int { return new(big.Int).Exp(big.NewInt(10), big.NewInt(int64(n)), nil) }

// isOne tells whether v is a number, by the words of chapters 5 and 6.
func isOne(v api.Value) bool {
	if v.Text != "" || len(v.Names) > 0 || len(v.Kids) > 0 {
		return false
	}
	ends := strings.HasSuffix(strconv.Itoa(v.Int), "0")
	return v.Kind == 3 && v.Scale == 0 || v.Kind == 4 && 1 <= v.Scale && v.Scale <= 18 && !ends
}

// leastOf is the least form of n, divided by ten so often: of its text, without the noughts at its end.
func leastOf(n *big.Int, scale int) (api.Value, api.Errno) {
	s := n.String()
	for scale > 0 && strings.HasSuffix(s, "0") && s != "0" {
		s, scale = s[:len(s)-1], scale-1
	}
	if s == "0" {
		scale = 0
	}
	least, e := strconv.Atoi(s)
	if scale > 18 || e != nil {
		return api.Value{}, api.ErrRange
	}
	v := api.Value{Kind: 3, Int: least}
	if scale > 0 {
		v.Kind, v.Scale = 4, scale
	}
	return v, api.OK
}

func chapterMake(n, scale int) (api.Value, api.Errno) {
	if scale < 0 {
		return api.Value{}, api.ErrRange
	}
	// No int but nought is a multiple of ten so often that more would tell another answer.
	return leastOf(big.NewInt(int64(n)), min(scale, 60))
}

// units is how many times 0.000000000000000001 a number is.
func units(v api.Value) *big.Int {
	n := big.NewInt(int64(v.Int))
	return n.Mul(n, power(18-v.Scale))
}

// chapterTwo is Add, Sub or Mul; of a product the units are so small again.
func chapterTwo(a, b api.Value, f func(z, x, y *big.Int) *big.Int, scale int) (api.Value, api.Errno) {
	if !isOne(a) || !isOne(b) {
		return api.Value{}, api.ErrType
	}
	return leastOf(f(new(big.Int), units(a), units(b)), scale)
}

func chapterNeg(a api.Value) (api.Value, api.Errno) {
	return chapterTwo(num(0), a, (*big.Int).Sub, 18)
}

func chapterCompare(a, b api.Value) (int, api.Errno) {
	if !isOne(a) || !isOne(b) {
		return 0, api.ErrType
	}
	return units(a).Cmp(units(b)), api.OK
}

func chapterText(a api.Value) (string, api.Errno) {
	if !isOne(a) {
		return "", api.ErrType
	}
	return new(big.Rat).SetFrac(big.NewInt(int64(a.Int)), power(a.Scale)).FloatString(a.Scale), api.OK
}

var (
	form   = regexp.MustCompile(`^-?(0|[1-9][0-9]*)(\.[0-9]{1,18})?$`)
	nought = regexp.MustCompile(`^-[0.]*$`)
)

func chapterParse(s string) (api.Value, api.Errno) {
	if !form.MatchString(s) || nought.MatchString(s) {
		return api.Value{}, api.ErrForm
	}
	whole, part, _ := strings.Cut(s, ".")
	n, _ := new(big.Int).SetString(whole+part, 10)
	return leastOf(n, len(part))
}

// The calls, held against what is wanted.

// short is a value for a message: a list may be long, or within itself.
func short(v api.Value) string {
	return fmt.Sprintf("{Kind %d, Int %d, Scale %d, Text %q, %d Names, %d Kids}", v.Kind, v.Int, v.Scale, cut(v.Text), len(v.Names), len(v.Kids))
}

func cut(s string) string { return s[:min(len(s), 100)] }

// answers holds a value and an error against what is wanted, in each of their fields.
func answers(t *testing.T, v api.Value, e api.Errno, want api.Value, wantE api.Errno, call func() string) {
	t.Helper()
	if e != wantE || !alike(v, want) {
		t.Errorf("%s = %s, %v, want %s, %v", call(), short(v), e, short(want), wantE)
	}
	if e == api.OK && (value.Check(v) != api.OK || v.Kind != api.Int && v.Kind != api.Decimal) {
		t.Errorf("%s = %s, which is no number", call(), short(v))
	}
	if e != api.OK && (!alike(v, api.Value{}) || v.Kind != 0) {
		t.Errorf("%s = %s beside an error", call(), short(v))
	}
}

// alike tells whether two answers are alike in all; none of them has a list with an element.
func alike(a, b api.Value) bool {
	return a.Kind == b.Kind && a.Int == b.Int && a.Scale == b.Scale && a.Text == b.Text && len(a.Names)+len(b.Names)+len(a.Kids)+len(b.Kids) == 0
}

func makes(t *testing.T, n, scale int, want api.Value, wantE api.Errno) {
	t.Helper()
	v, e := Make(n, scale)
	answers(t, v, e, want, wantE, func() string { return fmt.Sprintf("Make(%d, %d)", n, scale) })
}

func adds(t *testing.T, a, b, want api.Value, wantE api.Errno) {
	t.Helper()
	v, e := Add(a, b)
	answers(t, v, e, want, wantE, func() string { return "Add(" + short(a) + ", " + short(b) + ")" })
}

func subs(t *testing.T, a, b, want api.Value, wantE api.Errno) {
	t.Helper()
	v, e := Sub(a, b)
	answers(t, v, e, want, wantE, func() string { return "Sub(" + short(a) + ", " + short(b) + ")" })
}

func muls(t *testing.T, a, b, want api.Value, wantE api.Errno) {
	t.Helper()
	v, e := Mul(a, b)
	answers(t, v, e, want, wantE, func() string { return "Mul(" + short(a) + ", " + short(b) + ")" })
}

func negs(t *testing.T, a, want api.Value, wantE api.Errno) {
	t.Helper()
	v, e := Neg(a)
	answers(t, v, e, want, wantE, func() string { return "Neg(" + short(a) + ")" })
}

func compares(t *testing.T, a, b api.Value, want int, wantE api.Errno) {
	t.Helper()
	if c, e := Compare(a, b); c != want || e != wantE {
		t.Errorf("Compare(%s, %s) = %d, %v, want %d, %v", short(a), short(b), c, e, want, wantE)
	}
}

func texts(t *testing.T, a api.Value, want string, wantE api.Errno) {
	t.Helper()
	if s, e := Text(a); s != want || e != wantE {
		t.Errorf("Text(%s) = %q, %v, want %q, %v", short(a), s, e, want, wantE)
	}
}

func parses(t *testing.T, s string, want api.Value, wantE api.Errno) {
	t.Helper()
	v, e := Parse(s)
	answers(t, v, e, want, wantE, func() string { return fmt.Sprintf("Parse(%q)", cut(s)) })
}

// asTheChapter holds all that is asked of two values against the chapter.
func asTheChapter(t *testing.T, a, b api.Value) {
	t.Helper()
	want, wantE := chapterTwo(a, b, (*big.Int).Add, 18)
	adds(t, a, b, want, wantE)
	want, wantE = chapterTwo(a, b, (*big.Int).Sub, 18)
	subs(t, a, b, want, wantE)
	want, wantE = chapterTwo(a, b, (*big.Int).Mul, 36)
	muls(t, a, b, want, wantE)
	c, wantE := chapterCompare(a, b)
	compares(t, a, b, c, wantE)
	for _, v := range []api.Value{a, b} {
		want, wantE = chapterNeg(v)
		negs(t, v, want, wantE)
		s, wantE := chapterText(v)
		texts(t, v, s, wantE)
	}
}

func parsesAsTheChapter(t *testing.T, s string) {
	t.Helper()
	want, wantE := chapterParse(s)
	parses(t, s, want, wantE)
}

// wholes are ints at all edges: small ones, tens, halves of what fits, and what stands beside each.
func wholes() []int {
	near := []int{0, 10, 100, 25, 1 << 31, 1 << 32, 1 << 53, 1 << 61, 1 << 62, tenth, tens18, 9 * tens18, fives, 3037000500, 4611686018427387905, maxInt - 9}
	var out []int
	for _, n := range near {
		for d := -2; d <= 2; d++ {
			out = append(out, n+d, -n-d)
		}
	}
	out = append(out, maxInt, maxInt-1, maxInt-6, maxInt-7, minInt, minInt+1, minInt+7, minInt+8, minInt+9)
	slices.Sort(out)
	return slices.Compact(out)
}

// ordinary are numbers of both kinds at all edges.
func ordinary() []api.Value {
	var out []api.Value
	for i, n := range wholes() {
		out = append(out, num(n))
		if n%10 != 0 {
			out = append(out, dec(n, 1), dec(n, 18), dec(n, i%18+1))
		}
	}
	return out
}

// loops are no numbers either: their list of kids is within itself.
func loops() []api.Value {
	kids := make([]api.Value, 1)
	kids[0] = api.Value{Kind: api.List, Kids: kids}
	return []api.Value{kids[0], {Kind: api.Int, Int: 1, Kids: kids}, {Kind: api.Decimal, Int: 1, Scale: 1, Kids: kids}}
}

// noNumbers are values of the other kinds, and what Check of chapter 5 refuses.
func noNumbers() []api.Value {
	one := []api.Value{num(1)}
	return []api.Value{
		{Kind: api.Null}, {Kind: api.Bool}, {Kind: api.Bool, Int: 1}, {Kind: api.Time}, {Kind: api.Time, Int: 5}, {Kind: api.Text}, {Kind: api.Text, Text: "1"}, {Kind: api.Blob, Text: "1"},
		{Kind: api.List}, {Kind: api.List, Kids: one}, {Kind: api.Struct}, {Kind: api.Struct, Names: []string{"a"}, Kids: one},
		{}, {Int: 1}, {Kind: -3, Int: 1}, {Kind: 10, Int: 1}, {Kind: 1<<32 + 3, Int: 1}, {Kind: 1<<62 + 4, Int: 1, Scale: 1}, {Kind: maxInt}, {Kind: minInt},
		{Kind: api.Int, Int: 1, Scale: 1}, {Kind: api.Int, Int: 1, Scale: -1}, {Kind: api.Int, Scale: 18}, {Kind: api.Int, Int: 10, Scale: maxInt},
		{Kind: api.Int, Int: 1, Text: "x"}, {Kind: api.Int, Int: 1, Names: []string{"a"}}, {Kind: api.Int, Int: 1, Kids: one}, {Kind: api.Int, Names: []string{""}, Kids: make([]api.Value, 1)},
		dec(1, 0), dec(1, -1), dec(1, 19), dec(1, minInt), dec(1, maxInt), dec(0, 0), dec(0, 1), dec(0, 18), dec(10, 1), dec(-10, 1), dec(20, 18), dec(tens18, 18), dec(tens18, 19), dec(1, 1<<32+1),
		{Kind: api.Decimal, Int: 1, Scale: 1, Text: "x"}, {Kind: api.Decimal, Int: 1, Scale: 1, Names: []string{"a"}}, {Kind: api.Decimal, Int: 1, Scale: 1, Kids: one},
		{Kind: api.Bool, Int: 2}, {Kind: api.Time, Int: -1}, {Kind: api.Text, Text: strings.Repeat("1", 1<<14+1)},
	}
}

// The chapter's examples

func TestExamples(t *testing.T) {
	adds(t, dec(15, 1), dec(15, 1), num(3), api.OK)
	muls(t, dec(5, 1), dec(5, 1), dec(25, 2), api.OK)
	texts(t, dec(-5, 2), "-0.05", api.OK)
	parses(t, "1.50", dec(15, 1), api.OK)
	parses(t, "01", api.Value{}, api.ErrForm)
	parses(t, "-0.0", api.Value{}, api.ErrForm)
}

// P6.1

func TestMake(t *testing.T) {
	makes(t, 5, 0, num(5), api.OK)
	makes(t, -5, 0, num(-5), api.OK)
	makes(t, 50, 0, num(50), api.OK)
	makes(t, 15, 1, dec(15, 1), api.OK)
	makes(t, 150, 1, num(15), api.OK)
	makes(t, 150, 2, dec(15, 1), api.OK)
	makes(t, -150, 2, dec(-15, 1), api.OK)
	makes(t, 1500, 2, num(15), api.OK)
	makes(t, 15000, 2, num(150), api.OK)
	makes(t, -15000, 2, num(-150), api.OK)
	makes(t, 1, api.MaxScale, dec(1, 18), api.OK)
	makes(t, 105, 2, dec(105, 2), api.OK)
}

func TestMakeOfScaleBelowNought(t *testing.T) {
	for _, n := range wholes() {
		for _, scale := range []int{-1, -2, -18, -1 << 32, minInt + 1, minInt} {
			makes(t, n, scale, api.Value{}, api.ErrRange)
		}
	}
}

func TestMakeOfScaleAboveMaxScale(t *testing.T) {
	makes(t, 1, 19, api.Value{}, api.ErrRange)
	makes(t, -1, 19, api.Value{}, api.ErrRange)
	makes(t, 10, 19, dec(1, 18), api.OK)
	makes(t, -10, 19, dec(-1, 18), api.OK)
	makes(t, 10, 20, api.Value{}, api.ErrRange)
	makes(t, 100, 19, dec(1, 17), api.OK)
	makes(t, tens18, 18, num(1), api.OK)
	makes(t, tens18, 19, dec(1, 1), api.OK)
	makes(t, tens18, 36, dec(1, 18), api.OK)
	makes(t, -tens18, 36, dec(-1, 18), api.OK)
	makes(t, tens18, 37, api.Value{}, api.ErrRange)
	makes(t, 9*tens18, 36, dec(9, 18), api.OK)
	makes(t, tens18+10, 20, api.Value{}, api.ErrRange)
	for _, scale := range []int{19, 37, 38, 1 << 32, 1<<32 + 1, 1 << 40, maxInt - 1, maxInt} {
		makes(t, 7, scale, api.Value{}, api.ErrRange)
		makes(t, minInt, scale, api.Value{}, api.ErrRange)
	}
}

func TestMakeOfNought(t *testing.T) {
	for _, scale := range []int{0, 1, 9, 17, 18, 19, 20, 36, 37, 1 << 16, 1 << 32, 1 << 40, 1 << 62, maxInt} {
		makes(t, 0, scale, num(0), api.OK)
	}
}

func TestMakeAsTheChapter(t *testing.T) {
	for _, n := range wholes() {
		for scale := -2; scale < 42; scale++ {
			want, e := chapterMake(n, scale)
			makes(t, n, scale, want, e)
		}
	}
}

// P6.2

func TestAdd(t *testing.T) {
	adds(t, num(2), num(3), num(5), api.OK)
	adds(t, num(2), num(-3), num(-1), api.OK)
	adds(t, num(-2), num(3), num(1), api.OK)
	adds(t, num(-2), num(-3), num(-5), api.OK)
	adds(t, num(5), num(5), num(10), api.OK)
	adds(t, num(1), dec(5, 1), dec(15, 1), api.OK)
	adds(t, num(-1), dec(5, 1), dec(-5, 1), api.OK)
	adds(t, dec(25, 2), dec(75, 2), num(1), api.OK)
	adds(t, dec(25, 2), dec(25, 2), dec(5, 1), api.OK)
	adds(t, dec(25, 2), dec(-25, 2), num(0), api.OK)
	adds(t, dec(-25, 2), dec(25, 2), num(0), api.OK)
	adds(t, num(1), dec(1, 18), dec(tens18+1, 18), api.OK)
	adds(t, dec(999999999999999999, 18), dec(1, 18), num(1), api.OK)
	adds(t, num(0), num(0), num(0), api.OK)
}

func TestSub(t *testing.T) {
	subs(t, num(2), num(3), num(-1), api.OK)
	subs(t, num(3), num(2), num(1), api.OK)
	subs(t, num(-2), num(3), num(-5), api.OK)
	subs(t, num(2), num(-3), num(5), api.OK)
	subs(t, num(-2), num(-3), num(1), api.OK)
	subs(t, dec(25, 1), dec(5, 1), num(2), api.OK)
	subs(t, num(1), dec(1, 18), dec(tens18-1, 18), api.OK)
	subs(t, dec(1, 18), num(1), dec(1-tens18, 18), api.OK)
	subs(t, num(0), num(0), num(0), api.OK)
}

func TestMul(t *testing.T) {
	muls(t, num(2), num(3), num(6), api.OK)
	muls(t, num(-2), num(3), num(-6), api.OK)
	muls(t, num(2), num(-3), num(-6), api.OK)
	muls(t, num(-2), num(-3), num(6), api.OK)
	muls(t, dec(25, 1), num(4), num(10), api.OK)
	muls(t, dec(2, 1), dec(5, 1), dec(1, 1), api.OK)
	muls(t, dec(-12, 1), dec(3, 2), dec(-36, 3), api.OK)
	muls(t, num(0), dec(-1, 18), num(0), api.OK)
	muls(t, dec(-1, 18), num(0), num(0), api.OK)
	muls(t, num(0), num(minInt), num(0), api.OK)
}

func TestNeg(t *testing.T) {
	negs(t, num(5), num(-5), api.OK)
	negs(t, num(-5), num(5), api.OK)
	negs(t, num(0), num(0), api.OK)
	negs(t, num(10), num(-10), api.OK)
	negs(t, dec(15, 1), dec(-15, 1), api.OK)
	negs(t, dec(-1, 18), dec(1, 18), api.OK)
	negs(t, num(maxInt), num(-maxInt), api.OK)
	negs(t, num(minInt+1), num(maxInt), api.OK)
	negs(t, num(minInt), api.Value{}, api.ErrRange)
	for scale := 1; scale <= api.MaxScale; scale++ {
		negs(t, dec(maxInt, scale), dec(-maxInt, scale), api.OK)
		negs(t, dec(minInt, scale), api.Value{}, api.ErrRange)
	}
}

// Just within and just outside, with each scale: none of these is a multiple of ten.
func TestSumsAtTheEdges(t *testing.T) {
	at := func(n, scale int) api.Value {
		v, e := Make(n, scale)
		if e != api.OK {
			t.Fatalf("Make(%d, %d): %v", n, scale, e)
		}
		return v
	}
	for scale := range api.MaxScale + 1 {
		one, most, least := at(1, scale), at(maxInt, scale), at(minInt, scale)
		adds(t, at(maxInt-1, scale), one, most, api.OK)
		adds(t, most, one, api.Value{}, api.ErrRange)
		adds(t, at(minInt+1, scale), at(-1, scale), least, api.OK)
		adds(t, least, at(-1, scale), api.Value{}, api.ErrRange)
		adds(t, most, least, at(-1, scale), api.OK)
		subs(t, at(minInt+1, scale), one, least, api.OK)
		subs(t, least, one, api.Value{}, api.ErrRange)
		subs(t, at(maxInt-1, scale), at(-1, scale), most, api.OK)
		subs(t, most, at(-1, scale), api.Value{}, api.ErrRange)
		subs(t, least, least, num(0), api.OK)
		subs(t, at(-1, scale), least, most, api.OK)
		subs(t, num(0), least, api.Value{}, api.ErrRange)
		subs(t, least, num(0), least, api.OK)
		adds(t, least, num(0), least, api.OK)
		// Twice the least is 0 in one word, twice the greatest -2.
		adds(t, least, least, api.Value{}, api.ErrRange)
		subs(t, most, least, api.Value{}, api.ErrRange)
		subs(t, least, most, api.Value{}, api.ErrRange)
		adds(t, most, most, api.Value{}, api.ErrRange)
	}
}

// Outside before the least form, within behind it: and not, where it goes down too little.
func TestSumsBehindTheLeastForm(t *testing.T) {
	adds(t, dec(maxInt, 1), dec(3, 1), num(tenth+1), api.OK)
	adds(t, num(maxInt), num(3), api.Value{}, api.ErrRange)
	adds(t, dec(maxInt, 2), dec(3, 2), dec(tenth+1, 1), api.OK)
	adds(t, dec(maxInt, 18), dec(3, 18), dec(tenth+1, 17), api.OK)
	adds(t, dec(maxInt, 1), dec(4, 1), api.Value{}, api.ErrRange)
	adds(t, dec(minInt, 1), dec(-2, 1), num(-tenth-1), api.OK)
	subs(t, dec(minInt, 1), dec(2, 1), num(-tenth-1), api.OK)
	subs(t, dec(minInt, 18), dec(2, 18), dec(-tenth-1, 17), api.OK)
	subs(t, num(minInt), num(2), api.Value{}, api.ErrRange)
	adds(t, dec(maxInt-4, 1), dec(maxInt, 1), num(1844674407370955161), api.OK)
	adds(t, dec(minInt, 1), dec(minInt+6, 1), num(-1844674407370955161), api.OK)
	adds(t, dec(minInt, 18), dec(minInt+6, 18), dec(-1844674407370955161, 17), api.OK)
	adds(t, dec(minInt+1, 1), dec(minInt+1, 1), api.Value{}, api.ErrRange)
	subs(t, dec(maxInt-4, 2), dec(-maxInt, 2), dec(1844674407370955161, 1), api.OK)
}

// What stands on the way leaves 64 digits.
func TestSumsOfUnlikeScales(t *testing.T) {
	adds(t, num(18), dec(minInt, 18), dec(18*tens18-1<<63, 18), api.OK)
	adds(t, dec(minInt, 18), num(18), dec(18*tens18-1<<63, 18), api.OK)
	subs(t, num(12), dec(3500000000000000001, 18), dec(8499999999999999999, 18), api.OK)
	subs(t, num(-12), dec(-3500000000000000001, 18), dec(-8499999999999999999, 18), api.OK)
	subs(t, num(18), dec(maxInt, 18), dec(18*tens18-(1<<63-1), 18), api.OK)
	subs(t, num(19), dec(maxInt, 18), api.Value{}, api.ErrRange)
	adds(t, num(9), dec(223372036854775807, 18), dec(maxInt, 18), api.OK)
	adds(t, num(9), dec(223372036854775808, 18), api.Value{}, api.ErrRange)
	adds(t, num(-9), dec(-223372036854775808, 18), dec(minInt, 18), api.OK)
	subs(t, num(-9), dec(223372036854775808, 18), dec(minInt, 18), api.OK)
	subs(t, num(-9), dec(223372036854775809, 18), api.Value{}, api.ErrRange)
	adds(t, num(tenth), dec(7, 1), dec(maxInt, 1), api.OK)
	adds(t, num(tenth), dec(9, 1), api.Value{}, api.ErrRange)
	adds(t, num(-tenth), dec(-8, 1), dec(minInt, 1), api.OK)
	adds(t, num(-tenth), dec(-9, 1), api.Value{}, api.ErrRange)
	for scale := 1; scale <= api.MaxScale; scale++ {
		for _, n := range []int{maxInt, minInt, -maxInt, 1 << 62} {
			for _, small := range []int{1, -1, 5, maxInt, minInt} {
				adds(t, num(n), dec(small, scale), api.Value{}, api.ErrRange)
				subs(t, num(n), dec(small, scale), api.Value{}, api.ErrRange)
				adds(t, dec(small, scale), num(n), api.Value{}, api.ErrRange)
				subs(t, dec(small, scale), num(n), api.Value{}, api.ErrRange)
			}
		}
	}
	// 2^46 times ten to 18 is nought in the lower word.
	adds(t, num(1<<46), dec(1, 18), api.Value{}, api.ErrRange)
	subs(t, num(1<<46), dec(1, 18), api.Value{}, api.ErrRange)
	subs(t, dec(1, 18), num(1<<46), api.Value{}, api.ErrRange)
}

func TestProductsAtTheEdges(t *testing.T) {
	muls(t, num(1<<31), num(1<<31), num(1<<62), api.OK)
	muls(t, num(1<<32), num(1<<31), api.Value{}, api.ErrRange)
	muls(t, num(-1<<32), num(1<<31), num(minInt), api.OK)
	muls(t, num(1<<32), num(-1<<31), num(minInt), api.OK)
	muls(t, num(-1<<32), num(-1<<31), api.Value{}, api.ErrRange)
	muls(t, num(1<<32), num(1<<32), api.Value{}, api.ErrRange)
	muls(t, num(minInt), num(minInt), api.Value{}, api.ErrRange)
	muls(t, num(minInt), num(-1), api.Value{}, api.ErrRange)
	muls(t, num(minInt), num(1), num(minInt), api.OK)
	muls(t, num(minInt), num(2), api.Value{}, api.ErrRange)
	muls(t, num(maxInt), num(-1), num(-maxInt), api.OK)
	muls(t, num(maxInt), num(maxInt), api.Value{}, api.ErrRange)
	// 7 times 7 times 73 times 127 times 337 times 92737 times 649657 is the greatest int.
	muls(t, num(92737*649657), num(49*73*127*337), num(maxInt), api.OK)
	muls(t, num(-92737*649657), num(49*73*127*337), num(-maxInt), api.OK)
	muls(t, num(3037000499), num(3037000499), num(9223372030926249001), api.OK)
	muls(t, num(3037000500), num(3037000500), api.Value{}, api.ErrRange)
	muls(t, dec(-1<<31, 9), dec(1<<32, 9), dec(minInt, 18), api.OK)
	muls(t, dec(1<<31, 9), dec(1<<32, 9), api.Value{}, api.ErrRange)
	muls(t, dec(92737*649657, 9), dec(49*73*127*337, 9), dec(maxInt, 18), api.OK)
}

// What stands on the way leaves 64 digits, or has more than MaxScale: the least form alone counts.
func TestProductsBehindTheLeastForm(t *testing.T) {
	muls(t, num(1<<50), dec(fives, 18), num(1<<23*1000000000), api.OK)
	muls(t, num(1<<62), dec(fives, 18), api.Value{}, api.ErrRange)
	muls(t, dec(1<<62, 18), dec(fives, 18), dec(1<<35, 9), api.OK)
	muls(t, dec(1<<62, 18), dec(-fives, 18), dec(-1<<35, 9), api.OK)
	muls(t, dec(minInt, 18), dec(fives, 18), dec(-1<<36, 9), api.OK)
	muls(t, dec(1<<62, 18), num(fives), api.Value{}, api.ErrRange)
	muls(t, dec(1<<18, 18), dec(3814697265625, 18), dec(1, 18), api.OK)
	muls(t, dec(1<<17, 18), dec(762939453125, 18), api.Value{}, api.ErrRange)
	muls(t, dec(1, 9), dec(1, 9), dec(1, 18), api.OK)
	muls(t, dec(1, 9), dec(1, 10), api.Value{}, api.ErrRange)
	muls(t, dec(5, 9), dec(2, 10), dec(1, 18), api.OK)
	muls(t, dec(-5, 10), dec(2, 9), dec(-1, 18), api.OK)
	muls(t, dec(1, 18), dec(1, 18), api.Value{}, api.ErrRange)
	muls(t, dec(maxInt, 18), dec(maxInt, 18), api.Value{}, api.ErrRange)
	muls(t, num(10), dec(maxInt, 1), num(maxInt), api.OK)
	muls(t, dec(maxInt, 18), num(tens18), num(maxInt), api.OK)
	muls(t, num(tens18), dec(minInt, 18), num(minInt), api.OK)
	muls(t, num(100), dec(maxInt, 1), api.Value{}, api.ErrRange)
	muls(t, dec(1<<62+1, 1), num(2), num(tenth+1), api.OK)
	muls(t, dec(-1<<62-1, 1), num(2), num(-tenth-1), api.OK)
	muls(t, num(1<<62+1), num(2), api.Value{}, api.ErrRange)
	muls(t, dec(1<<62, 1), num(2), api.Value{}, api.ErrRange)
}

func TestCompare(t *testing.T) {
	compares(t, num(2), dec(25, 1), -1, api.OK)
	compares(t, dec(25, 1), num(2), 1, api.OK)
	compares(t, dec(25, 1), num(10), -1, api.OK)
	compares(t, dec(25, 1), dec(25, 1), 0, api.OK)
	compares(t, dec(25, 1), dec(25, 2), 1, api.OK)
	compares(t, dec(-25, 1), dec(-25, 2), -1, api.OK)
	compares(t, dec(-25, 1), num(-2), -1, api.OK)
	compares(t, num(-1), num(1), -1, api.OK)
	compares(t, num(0), dec(1, 18), -1, api.OK)
	compares(t, num(0), dec(-1, 18), 1, api.OK)
	compares(t, num(0), num(0), 0, api.OK)
	compares(t, num(maxInt), num(minInt), 1, api.OK)
	compares(t, dec(maxInt, 18), num(9), 1, api.OK)
	compares(t, dec(maxInt, 18), num(10), -1, api.OK)
	compares(t, num(tenth), dec(maxInt, 1), -1, api.OK)
	compares(t, num(tenth+1), dec(maxInt, 1), 1, api.OK)
	compares(t, num(minInt), dec(minInt, 18), -1, api.OK)
}

func TestWhatIsNoNumber(t *testing.T) {
	good := []api.Value{num(0), num(1), num(minInt), dec(15, 1), dec(maxInt, 18)}
	for _, bad := range append(noNumbers(), loops()...) {
		negs(t, bad, api.Value{}, api.ErrType)
		texts(t, bad, "", api.ErrType)
		for _, other := range append(good, noNumbers()...) {
			for _, p := range [][2]api.Value{{bad, other}, {other, bad}} {
				adds(t, p[0], p[1], api.Value{}, api.ErrType)
				subs(t, p[0], p[1], api.Value{}, api.ErrType)
				muls(t, p[0], p[1], api.Value{}, api.ErrType)
				compares(t, p[0], p[1], 0, api.ErrType)
			}
		}
	}
}

// A list without an element is none (W5).
func TestEmptyListsAreNone(t *testing.T) {
	a := api.Value{Kind: api.Int, Int: 2, Names: []string{}, Kids: []api.Value{}}
	b := api.Value{Kind: api.Decimal, Int: 5, Scale: 1, Names: make([]string, 0, 3), Kids: make([]api.Value, 0, 3)}
	adds(t, a, b, dec(25, 1), api.OK)
	subs(t, a, b, dec(15, 1), api.OK)
	muls(t, a, b, num(1), api.OK)
	negs(t, b, dec(-5, 1), api.OK)
	compares(t, a, b, 1, api.OK)
	texts(t, b, "0.5", api.OK)
}

func TestEveryTwoAsTheChapter(t *testing.T) {
	all := ordinary()
	for i, a := range all {
		for j, b := range all {
			// All of those that are next to each other, and every seventh of the rest.
			if (i+j)%7 == 0 || i-j < 9 && j-i < 9 {
				asTheChapter(t, a, b)
			}
		}
	}
}

// anyNumber is a number of any count of digits, both kinds, both signs.
func anyNumber(r *rand.Rand) api.Value {
	n := int(r.Uint64()) >> r.Intn(64)
	if scale := r.Intn(19); scale > 0 && n%10 != 0 {
		return dec(n, scale)
	}
	return num(n)
}

// twin is a number whose product or sum with v is likely to end with noughts.
func twin(r *rand.Rand, v api.Value) api.Value {
	x := anyNumber(r)
	if r.Intn(2) == 0 {
		n := 1
		for range r.Intn(27) {
			n *= 5 - 3*(v.Int&1)
		}
		x.Int = n
	} else {
		x.Scale, x.Int = v.Scale, x.Int/10*10-v.Int%10
	}
	made, _ := Make(x.Int, x.Scale)
	if made.Kind == 0 {
		return num(1)
	}
	return made
}

func TestManyAsTheChapter(t *testing.T) {
	r := rand.New(rand.NewSource(6))
	for range 40000 {
		a := anyNumber(r)
		asTheChapter(t, a, anyNumber(r))
		asTheChapter(t, a, twin(r, a))
	}
}

// P6.3

func TestText(t *testing.T) {
	for want, v := range map[string]api.Value{
		"0": num(0), "7": num(7), "-7": num(-7), "10": num(10), "-10": num(-10), "100": num(100), "12345": num(12345),
		"9223372036854775807": num(maxInt), "-9223372036854775808": num(minInt), "1000000000000000000": num(tens18),
		"0.1": dec(1, 1), "-0.1": dec(-1, 1), "1.5": dec(15, 1), "-1.5": dec(-15, 1), "0.01": dec(1, 2), "0.15": dec(15, 2), "1.05": dec(105, 2), "-0.05": dec(-5, 2), "10.1": dec(101, 1),
		"0.000000000000000001": dec(1, 18), "-0.000000000000000001": dec(-1, 18), "0.123456789012345678": dec(123456789012345678, 18), "1.123456789012345678": dec(1123456789012345678, 18),
		"9.223372036854775807": dec(maxInt, 18), "-9.223372036854775808": dec(minInt, 18), "922337203685477580.7": dec(maxInt, 1), "-922337203685477580.8": dec(minInt, 1), "92.23372036854775807": dec(maxInt, 17),
	} {
		texts(t, v, want, api.OK)
		parses(t, want, v, api.OK)
	}
}

// Of each scale: digits fewer, as many and more than behind the dot.
func TestTextOfEachScale(t *testing.T) {
	for scale := 1; scale <= api.MaxScale; scale++ {
		noughts := strings.Repeat("0", scale-1)
		texts(t, dec(1, scale), "0."+noughts+"1", api.OK)
		texts(t, dec(-3, scale), "-0."+noughts+"3", api.OK)
		n := int(math.Pow10(scale))
		texts(t, dec(n+1, scale), "1."+noughts+"1", api.OK)
		texts(t, dec(-n-1, scale), "-1."+noughts+"1", api.OK)
		texts(t, dec(n-1, scale), "0."+strings.Repeat("9", scale), api.OK)
		texts(t, dec(1-n, scale), "-0."+strings.Repeat("9", scale), api.OK)
	}
}

func TestParseTakes(t *testing.T) {
	for s, want := range map[string]api.Value{
		"0": num(0), "0.0": num(0), "0.00": num(0), "0.000000000000000000": num(0), "1": num(1), "-1": num(-1), "9": num(9), "10": num(10), "-10": num(-10), "1234567890": num(1234567890),
		"0.5": dec(5, 1), "-0.5": dec(-5, 1), "0.05": dec(5, 2), "1.5": dec(15, 1), "10.01": dec(1001, 2), "-0.000000000000000001": dec(-1, 18),
		// Whose least form is shorter.
		"1.0": num(1), "-1.0": num(-1), "10.0": num(10), "100.00": num(100), "1.50": dec(15, 1), "-1.500": dec(-15, 1), "0.10": dec(1, 1), "0.100000000000000000": dec(1, 1), "1.000000000000000000": num(1), "12.000": num(12), "10.10": dec(101, 1),
		"9223372036854775807.0": num(maxInt), "9223372036854775807.000000000000000000": num(maxInt), "-9223372036854775808.000000000000000000": num(minInt), "1000000000000000000.000000000000000000": num(tens18),
		"922337203685477580.700000000000000000": dec(maxInt, 1), "-922337203685477580.80": dec(minInt, 1), "9.223372036854775807": dec(maxInt, 18), "-9.223372036854775808": dec(minInt, 18),
	} {
		parses(t, s, want, api.OK)
	}
}

func TestParseRefusesForms(t *testing.T) {
	for _, s := range []string{
		"", "-", "--1", "- 1", "-+1", "+1", "+", "1-", "-1-", "1-1", ".", "-.", "..", ".5", "-.5", "1.", "-1.", "0.", "-0.", "1..5", "1.2.3", "1.2.", ".1.", "1.-5", "1.+5", "1,5", "1_0", "0x1", "0b1", "1e3", "1E3", "1.5e1", "Inf", "inf", "NaN", "nan", "a", "1a", "a1", "1.a", "1.5a",
		"00", "01", "-01", "00.5", "01.5", "-00", "-00.5", "000", "0123", "-0123", "007",
		"-0", "-0.0", "-0.00", "-0.000000000000000000", " 1", "1 ", "\t1", "1\n", "\n", " ", "1 000", "1.5 ", "1. 5", "\x00", "1\x00", "\x001", "\xff", "1\xff", "\xef\xbb\xbf1", "１", "1．5", "٣", "1.٣", "−1", "1.½",
		"/", ":", "1/", "1:", "1./", "1.:", "/1", ":1",
	} {
		parses(t, s, api.Value{}, api.ErrForm)
	}
}

func TestParseCountsDigitsBehindTheDot(t *testing.T) {
	for n := range 60 {
		for _, digit := range []string{"0", "1", "9"} {
			for _, ahead := range []string{"0.", "1.", "-1.", "-9.", "12.", "9223372036854775807.", "99999999999999999999."} {
				parsesAsTheChapter(t, ahead+strings.Repeat(digit, n))
			}
		}
	}
	parses(t, "1."+strings.Repeat("0", 18), num(1), api.OK)
	parses(t, "1."+strings.Repeat("0", 19), api.Value{}, api.ErrForm)
	parses(t, "1.5"+strings.Repeat("0", 18), api.Value{}, api.ErrForm)
	parses(t, "0."+strings.Repeat("0", 19), api.Value{}, api.ErrForm)
}

func TestParseOutsideItsDigits(t *testing.T) {
	for _, s := range []string{
		"9223372036854775808", "-9223372036854775809", "9223372036854775810", "9999999999999999999", "-9999999999999999999", "10000000000000000000", "-10000000000000000000", "18446744073709551615", "18446744073709551616", "18446744073709551617", "-18446744073709551616",
		"922337203685477580.8", "-922337203685477580.9", "922337203685477581.1", "9223372036854775807.1", "-9223372036854775808.1", "9.223372036854775808", "-9.223372036854775809", "10.000000000000000001", "-10.000000000000000001", "1000000000000000000.000000000000000001",
		"18.446744073709551617", "1844674407370955161.7", "184467440737095516160.000000000000000001", "340282366920938463463374607431768211455", "340282366920938463463374607431768211456", "340282366920938463463374607431768211457", "-340282366920938463463374607431768211457", "340282366920938463463.374607431768211457",
		"9223372036854775808.0", "9999999999999999999.000000000000000000", "9999999999999999999.999999999999999999", "-9999999999999999999.999999999999999999", "99999999999999999999.999999999999999999",
	} {
		parses(t, s, api.Value{}, api.ErrRange)
	}
	for n := 20; n < 100; n++ {
		for _, digit := range []string{"1", "9"} {
			parses(t, digit+strings.Repeat("0", n-1), api.Value{}, api.ErrRange)
			parses(t, "-"+strings.Repeat(digit, n), api.Value{}, api.ErrRange)
			parses(t, strings.Repeat(digit, n)+".5", api.Value{}, api.ErrRange)
			parses(t, strings.Repeat(digit, n)+".0", api.Value{}, api.ErrRange)
		}
	}
}

// What is no form is so ahead of what leaves its digits.
func TestParseFormIsAheadOfRange(t *testing.T) {
	for _, great := range []string{"9223372036854775808", "-9223372036854775809", "99999999999999999999", "340282366920938463463374607431768211457", strings.Repeat("9", 1000)} {
		for _, behind := range []string{".", "x", " ", "-", "..", ".x", ".5x", ".5.", ".-1", "\x00", ".0000000000000000000", ".9999999999999999999"} {
			parses(t, great, api.Value{}, api.ErrRange)
			parses(t, great+behind, api.Value{}, api.ErrForm)
		}
		parses(t, "-"+great+".", api.Value{}, api.ErrForm)
		parses(t, "0"+great, api.Value{}, api.ErrForm)
		parses(t, "+"+great, api.Value{}, api.ErrForm)
		parses(t, " "+great, api.Value{}, api.ErrForm)
	}
}

func TestParseOfLongTexts(t *testing.T) {
	long := strings.Repeat("9", 1<<24)
	parses(t, long, api.Value{}, api.ErrRange)
	parses(t, "-"+long, api.Value{}, api.ErrRange)
	parses(t, long+".5", api.Value{}, api.ErrRange)
	parses(t, long+".", api.Value{}, api.ErrForm)
	parses(t, long+"x", api.Value{}, api.ErrForm)
	parses(t, long+"x"+long, api.Value{}, api.ErrForm)
	parses(t, "1."+long, api.Value{}, api.ErrForm)
	parses(t, "0"+long, api.Value{}, api.ErrForm)
	parses(t, strings.Repeat("0", 1<<24), api.Value{}, api.ErrForm)
	parses(t, "-"+strings.Repeat("0", 1<<24), api.Value{}, api.ErrForm)
	parses(t, strings.Repeat("-", 1<<24), api.Value{}, api.ErrForm)
	parses(t, strings.Repeat(".", 1<<24), api.Value{}, api.ErrForm)
}

// Every text of up to six of these signs.
func TestParseOfShortTexts(t *testing.T) {
	signs := []string{"0", "1", "9", "-", ".", " "}
	row := []string{""}
	for range 6 {
		var next []string
		for _, s := range row {
			parsesAsTheChapter(t, s)
			for _, sign := range signs {
				next = append(next, s+sign)
			}
		}
		row = next
	}
	for _, s := range row {
		parsesAsTheChapter(t, s)
	}
}

// Each byte at each place of a number, in the stead of another one and between two.
func TestParseOfEachByteAtEachPlace(t *testing.T) {
	for _, s := range []string{"0", "-1", "1.5", "-120.050", "9223372036854775807", "-9.223372036854775808"} {
		for at := range len(s) + 1 {
			for b := range 256 {
				parsesAsTheChapter(t, s[:at]+string([]byte{byte(b)})+s[at:])
				if at < len(s) {
					parsesAsTheChapter(t, s[:at]+string([]byte{byte(b)})+s[at+1:])
				}
			}
			if at < len(s) {
				parsesAsTheChapter(t, s[:at]+s[at+1:])
			}
		}
	}
}

// A dot at each place of the texts about the edges.
func TestParseAtTheEdges(t *testing.T) {
	for _, n := range []string{"9223372036854775807", "18446744073709551616", "10000000000000000000", "340282366920938463463374607431768211456"} {
		middle, _ := new(big.Int).SetString(n, 10)
		for d := int64(-12); d <= 12; d++ {
			s := new(big.Int).Add(middle, big.NewInt(d)).String()
			for _, sign := range []string{"", "-"} {
				for noughts := range 4 {
					parsesAsTheChapter(t, sign+s+strings.Repeat("0", noughts))
					for at := range len(s) + 1 {
						parsesAsTheChapter(t, sign+s[:at]+"."+s[at:]+strings.Repeat("0", noughts))
					}
				}
			}
		}
	}
}

// P6.4

func TestParseOfTextIsTheNumber(t *testing.T) {
	r := rand.New(rand.NewSource(64))
	all := ordinary()
	for range 20000 {
		all = append(all, anyNumber(r))
	}
	for _, v := range all {
		s, e := Text(v)
		if e != api.OK {
			t.Fatalf("Text(%s): %v", short(v), e)
		}
		parses(t, s, v, api.OK)
	}
}

func TestTurnedRound(t *testing.T) {
	all := ordinary()
	for i, a := range all {
		for _, b := range all[i%3:] {
			for name, call := range map[string]twoCalls{"Add": Add, "Mul": Mul} {
				v, e := call(a, b)
				x, f := call(b, a)
				if !alike(v, x) || e != f {
					t.Fatalf("%s of %s and %s: %s, %v, turned round %s, %v", name, short(a), short(b), short(v), e, short(x), f)
				}
			}
			v, e := Sub(a, b)
			x, f := Sub(b, a)
			if back, g := Neg(x); e == api.OK && f == api.OK && (!alike(v, back) || g != api.OK) {
				t.Fatalf("Sub of %s and %s: %s, turned round %s", short(a), short(b), short(v), short(x))
			}
		}
	}
}

func TestAddedAndTakenAway(t *testing.T) {
	r, times := rand.New(rand.NewSource(46)), 0
	for range 60000 {
		a, b := anyNumber(r), anyNumber(r)
		if r.Intn(2) == 0 {
			b = twin(r, a)
		}
		for _, ways := range [][2]twoCalls{{Add, Sub}, {Sub, Add}} {
			there, e := ways[0](a, b)
			if e != api.OK {
				continue
			}
			times++
			// What is behind is a, so it cannot err.
			if back, e := ways[1](there, b); e != api.OK || !alike(back, a) {
				t.Fatalf("%s, by way of %s there and back, is %s, %v", short(a), short(b), short(back), e)
			}
		}
		if there, e := Neg(a); e == api.OK {
			if back, e := Neg(there); e != api.OK || !alike(back, a) {
				t.Fatalf("Neg of Neg of %s is %s, %v", short(a), short(back), e)
			}
		}
	}
	if times < 20000 {
		t.Errorf("only %d sums of 120000 are within", times)
	}
}

// Compare goes with Sub: what is below has less.
func TestCompareGoesWithSub(t *testing.T) {
	all := ordinary()
	for i, a := range all {
		for _, b := range all[i%5:] {
			c, _ := Compare(a, b)
			if d, e := Sub(a, b); e == api.OK && (d.Int < 0) != (c < 0) || e == api.OK && (d.Int > 0) != (c > 0) {
				t.Fatalf("Compare(%s, %s) = %d, Sub %s", short(a), short(b), c, short(d))
			}
		}
	}
}

// W6, W7: what is handed in and what is answered

// spared is v with spare room behind its lists, which it keeps beside it.
func spared(v api.Value) (api.Value, []string, []api.Value) {
	names, kids := make([]string, len(v.Names)+2), make([]api.Value, len(v.Kids)+2)
	copy(names, v.Names)
	copy(kids, v.Kids)
	names[len(v.Names)], kids[len(v.Kids)] = "spare", num(77)
	v.Names, v.Kids = names[:len(v.Names)], kids[:len(v.Kids)]
	return v, names, kids
}

func calls() map[string]twoCalls {
	one := func(call oneCall) twoCalls {
		return func(a, b api.Value) (api.Value, api.Errno) { return call(a) }
	}
	return map[string]twoCalls{
		"Add": Add, "Sub": Sub, "Mul": Mul, "Neg": one(Neg),
		"Make": func(a, b api.Value) (api.Value, api.Errno) { return Make(a.Int, a.Scale) },
		"Compare": func(a, b api.Value) (api.Value, api.Errno) {
			c, e := Compare(a, b)
			return api.Value{Int: c}, e
		},
		"Text": func(a, b api.Value) (api.Value, api.Errno) {
			s, e := Text(a)
			return api.Value{Text: s}, e
		},
	}
}

func pairs() [][2]api.Value {
	out := [][2]api.Value{{num(0), num(0)}, {num(5), num(0)}, {num(0), dec(5, 1)}, {dec(15, 1), dec(15, 1)}, {dec(25, 1), num(1)}, {num(1), dec(-1, 18)}, {num(maxInt), num(maxInt)}}
	for _, bad := range noNumbers() {
		out = append(out, [2]api.Value{bad, num(1)}, [2]api.Value{num(1), bad})
	}
	return out
}

func TestHandedInIsNeitherChangedNorKept(t *testing.T) {
	for name, call := range calls() {
		for i, p := range pairs() {
			a, namesA, kidsA := spared(p[0])
			b, namesB, kidsB := spared(p[1])
			before := fmt.Sprint(a, b, namesA, namesB, kidsA, kidsB)
			v, e := call(a, b)
			if fmt.Sprint(a, b, namesA, namesB, kidsA, kidsB) != before {
				t.Errorf("%s of pair %d changes what is handed in", name, i)
			}
			said := fmt.Sprint(v, e)
			for j := range v.Names[:cap(v.Names)] {
				v.Names[:cap(v.Names)][j] = "turned"
			}
			for j := range v.Kids[:cap(v.Kids)] {
				v.Kids[:cap(v.Kids)][j] = num(88)
			}
			if fmt.Sprint(a, b, namesA, namesB, kidsA, kidsB) != before {
				t.Errorf("%s of pair %d: the answer shares memory with what is handed in", name, i)
			}
			clear(namesA)
			clear(namesB)
			clear(kidsA)
			clear(kidsB)
			if fmt.Sprint(v, e) != said {
				t.Errorf("%s of pair %d: the answer is another one when what was handed in is", name, i)
			}
			if x, f := call(p[0], p[1]); fmt.Sprint(x, f) != said {
				t.Errorf("%s of pair %d answers otherwise the second time", name, i)
			}
		}
	}
}

// A text that is made of bytes which change later is a copy of them; what comes of it stays.
func TestParseKeepsNothing(t *testing.T) {
	b := []byte("-12.50")
	v, e := Parse(string(b))
	b[1] = '9'
	parses(t, string(b), dec(-925, 1), api.OK)
	if s, _ := Text(v); e != api.OK || s != "-12.5" {
		t.Errorf("Text = %q, %v", s, e)
	}
}

func TestSideBySide(t *testing.T) {
	all := ordinary()
	var group sync.WaitGroup
	for k := range 8 {
		group.Go(func() {
			for i, a := range all {
				asTheChapter(t, a, all[(i*7+k)%len(all)])
			}
		})
	}
	group.Wait()
}

// W1: any values, any texts

func FuzzAnyValues(f *testing.F) {
	for i, v := range append(ordinary(), noNumbers()...) {
		f.Add(v.Kind, v.Int, v.Scale, v.Text, 3+i%2, tenth+i, i%19)
	}
	f.Fuzz(func(t *testing.T, kind, n, scale int, text string, otherKind, other, otherScale int) {
		a, b := api.Value{Kind: kind, Int: n, Scale: scale, Text: text}, api.Value{Kind: otherKind, Int: other, Scale: otherScale}
		asTheChapter(t, a, b)
		asTheChapter(t, b, a)
		asTheChapter(t, a, a)
		want, e := chapterMake(n, scale)
		makes(t, n, scale, want, e)
	})
}

func FuzzAnyBytes(f *testing.F) {
	for _, s := range []string{"", "0", "-0", "1.50", "01", "-0.05", "9223372036854775808", "-9.223372036854775808", "1.0000000000000000000", "1e3", "\xff"} {
		f.Add([]byte(s))
	}
	f.Fuzz(func(t *testing.T, b []byte) {
		parsesAsTheChapter(t, string(b))
	})
}
