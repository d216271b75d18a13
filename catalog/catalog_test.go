package catalog

import (
	"fmt"
	"math"
	"math/rand"
	"slices"
	"strings"
	"testing"

	"scrivener/api"
)

// named is a name for each number.
func named(i int) string { return fmt.Sprintf("t%d", i) }

// tables is n tables with 0 to 4 indexes each, of which every third one that is not the last is dropped.
func tables(t *testing.T, n int) both {
	t.Helper()
	b := newBoth()
	for i := 1; i <= n; i++ {
		b.must(t, made(i, named(i)))
		for k := range i % 5 {
			b.must(t, indexed(i, named(k)))
		}
	}
	for i := 3; i < n; i += 3 {
		b.must(t, dropped(i))
	}
	return b
}

func sizes() []int { return []int{0, 1, 2, 3, 4, 7, 31, 32, 33, 62, 63, 64} }

// P14.1

func TestExample(t *testing.T) {
	c := New()
	for i, x := range []struct {
		e    api.Entry
		want api.Errno
	}{{made(1, "a"), api.OK}, {made(2, "a"), api.ErrHas}, {dropped(1), api.OK}, {made(2, "a"), api.OK}} {
		if got := c.Apply(x.e); got != x.want {
			t.Error(i, got)
		}
	}
}

// What Apply answers is written out here, case by case, beside what the log says.
func TestTableErrors(t *testing.T) {
	long, longer := strings.Repeat("n", 40), strings.Repeat("n", 41)
	for _, x := range []struct {
		tables int
		id     int
		name   string
		want   api.Errno
	}{
		{0, 1, "a", api.OK}, {0, 1, long, api.OK}, {0, 1, longer, api.ErrForm}, {0, 1, "", api.ErrForm},
		{0, 0, "a", api.ErrForm}, {0, 2, "a", api.ErrForm}, {0, -1, "a", api.ErrForm}, {0, math.MinInt, "a", api.ErrForm}, {0, math.MaxInt, "a", api.ErrForm},
		{0, 1, "\x00", api.OK}, {0, 1, " ", api.OK}, {0, 1, "\xff\xfe", api.OK}, {0, 1, strings.Repeat("ä", 20), api.OK}, {0, 1, strings.Repeat("ä", 21), api.ErrForm}, {0, 1, strings.Repeat("n", 1<<20), api.ErrForm},
		{1, 1, "a", api.ErrForm}, {1, 2, "a", api.OK}, {1, 2, "t1", api.ErrHas}, {1, 1, "t1", api.ErrForm}, {1, 3, "t1", api.ErrForm}, {1, 2, "T1", api.OK}, {1, 2, "t1 ", api.OK}, {1, 2, "t", api.OK},
		// Number 3 of 7 is dropped: its name is free, its number is not.
		{7, 8, "t3", api.OK}, {7, 3, "t3", api.ErrForm}, {7, 7, "t3", api.ErrForm}, {7, 6, "a", api.ErrForm}, {7, 8, "t7", api.ErrHas}, {7, 8, "t1", api.ErrHas}, {7, 9, "a", api.ErrForm},
		{63, 64, "a", api.OK}, {63, 64, "t1", api.ErrHas}, {63, 64, "t63", api.ErrHas}, {63, 64, "t60", api.OK}, {63, 65, "a", api.ErrForm}, {63, 64, "", api.ErrForm}, {63, 0, "a", api.ErrForm},
		{64, 65, "a", api.ErrLimit}, {64, 65, "t1", api.ErrLimit}, {64, 65, "t3", api.ErrLimit}, {64, 65, "", api.ErrLimit}, {64, 65, longer, api.ErrLimit}, {64, 0, "", api.ErrLimit}, {64, 3, "t3", api.ErrLimit}, {64, 64, "a", api.ErrLimit}, {64, math.MinInt, "t1", api.ErrLimit},
	} {
		b := tables(t, x.tables)
		if got := b.apply(t, made(x.id, x.name)); got != x.want {
			t.Errorf("%d tables, table %d %q: %v, not %v", x.tables, x.id, x.name, got, x.want)
		}
		same(t, b.c, b.l)
	}
}

func TestDropErrors(t *testing.T) {
	for _, n := range sizes() {
		for _, id := range ids() {
			b := tables(t, n)
			want := api.ErrNone
			if id >= 1 && id <= n && (id%3 != 0 || id == n) {
				want = api.OK
			}
			if got := b.apply(t, dropped(id)); got != want {
				t.Fatalf("%d tables, drop %d: %v, not %v", n, id, got, want)
			}
			if got := b.apply(t, dropped(id)); got != api.ErrNone {
				t.Fatalf("%d tables, drop %d again: %v", n, id, got)
			}
			if want == api.OK || id < 70 && id > 60 {
				same(t, b.c, b.l)
			}
		}
	}
}

func TestIndexErrors(t *testing.T) {
	long, longer := strings.Repeat("n", 40), strings.Repeat("n", 41)
	b := newBoth()
	b.must(t, made(1, "a"), made(2, "gone"), made(3, "full"), made(4, "b"), indexed(1, "f"), indexed(2, "f"), indexed(4, "only here"), dropped(2))
	for i := range 16 {
		b.must(t, indexed(3, named(i)))
	}
	for _, x := range []struct {
		id    int
		field string
		want  api.Errno
	}{
		{1, "g", api.OK}, {1, long, api.OK}, {1, longer, api.ErrForm}, {1, "", api.ErrForm}, {1, "f", api.ErrHas}, {1, "F", api.OK}, {1, "a", api.OK}, {1, "only here", api.OK},
		{1, "\x00", api.OK}, {1, "\xff", api.OK}, {1, strings.Repeat("ä", 20), api.OK}, {1, strings.Repeat("ä", 21), api.ErrForm}, {1, strings.Repeat("n", 1<<20), api.ErrForm},
		{2, "f", api.ErrNone}, {2, "g", api.ErrNone}, {2, "", api.ErrNone}, {2, longer, api.ErrNone},
		{0, "f", api.ErrNone}, {5, "f", api.ErrNone}, {-1, "", api.ErrNone}, {5, longer, api.ErrNone}, {math.MinInt, "f", api.ErrNone}, {math.MaxInt, "f", api.ErrNone}, {65, "f", api.ErrNone},
		{3, "g", api.ErrLimit}, {3, "t16", api.ErrLimit}, {3, long, api.ErrLimit}, {3, "t0", api.ErrHas}, {3, "t15", api.ErrHas}, {3, "", api.ErrForm}, {3, longer, api.ErrForm}, {3, "only here", api.ErrLimit},
		{4, "f", api.OK}, {4, "only here", api.ErrHas},
	} {
		one := b.copy()
		if got := one.apply(t, indexed(x.id, x.field)); got != x.want {
			t.Errorf("index of %d on %.50q: %v, not %v", x.id, x.field, got, x.want)
		}
		same(t, one.c, one.l)
	}
}

// The 16th index is the last one, of each table for itself.
func TestSixteen(t *testing.T) {
	b := newBoth()
	for id := 1; id <= 64; id++ {
		b.must(t, made(id, named(id)))
		for i := range 16 {
			b.must(t, indexed(id, named(15-i)))
		}
		if got := b.apply(t, indexed(id, "more")); got != api.ErrLimit {
			t.Fatal(id, got)
		}
	}
	same(t, b.c, b.l)
	x, _ := b.c.Table(64)
	if len(x.Indexes) != 16 || x.Indexes[0].Field != "t15" || x.Indexes[15].Field != "t0" {
		t.Error(x)
	}
	for id := 1; id <= 64; id++ {
		b.must(t, dropped(id))
		if got := b.apply(t, indexed(id, "t0")); got != api.ErrNone {
			t.Fatal(id, got)
		}
	}
	same(t, b.c, b.l)
	if len(b.c.All()) != 64 {
		t.Error(len(b.c.All()))
	}
	if got := b.apply(t, made(65, "a")); got != api.ErrLimit {
		t.Error(got)
	}
}

// Indexes are in the order in which they came, not by their names.
func TestBehindTheOthers(t *testing.T) {
	b := newBoth()
	b.must(t, made(1, "a"), indexed(1, "m"), indexed(1, "z"), indexed(1, "a"), indexed(1, "n"))
	if got := b.apply(t, indexed(1, "m")); got != api.ErrHas {
		t.Error(got)
	}
	x, _ := b.c.Find("a")
	if !slices.Equal(x.Indexes, []Index{{"m"}, {"z"}, {"a"}, {"n"}}) {
		t.Error(x)
	}
	same(t, b.c, b.l)
}

// A name is free again behind a drop, as often as there are tables, and its new table has none of the old one's indexes.
func TestFreeAgain(t *testing.T) {
	b := newBoth()
	for id := 1; id <= 64; id++ {
		if got := b.apply(t, made(id, "a")); got != api.OK {
			t.Fatal(id, got)
		}
		if got := b.apply(t, made(id+1, "a")); got != api.ErrHas && id < 64 {
			t.Fatal(id, got)
		}
		x, e := b.c.Find("a")
		if e != api.OK || x.ID != id || len(x.Indexes) != 0 || b.c.Has(id, "f") {
			t.Fatal(id, x, e)
		}
		b.must(t, indexed(id, "f"))
		same(t, b.c, b.l)
		b.must(t, dropped(id))
		if x, e := b.c.Find("a"); e != api.ErrName || x.ID != 0 {
			t.Fatal(id, x, e)
		}
	}
	same(t, b.c, b.l)
	if got := b.apply(t, made(65, "a")); got != api.ErrLimit {
		t.Error(got)
	}
}

// Each table is dropped for itself, whichever of the 64 it is.
func TestEachDigit(t *testing.T) {
	for id := 1; id <= 64; id++ {
		b := newBoth()
		for i := 1; i <= 64; i++ {
			b.must(t, made(i, named(i)), indexed(i, "f"))
		}
		b.must(t, dropped(id))
		for i, x := range b.c.All() {
			if x.Dropped != (i+1 == id) || b.c.Has(i+1, "f") == x.Dropped || (len(x.Indexes) == 0) != x.Dropped {
				t.Fatal(id, x)
			}
		}
		same(t, b.c, b.l)
	}
}

// Other entries are OK, and nothing happens, whatever they tell.
func TestOtherKinds(t *testing.T) {
	for _, n := range sizes() {
		b := tables(t, n)
		for _, kind := range []int{math.MinInt, -7, -6, -5, -1, 0, api.EntryStatement, api.EntryRevision, api.EntryDelete, api.EntryRedact, 8, 9, 256 + 5, 1<<32 + 6, math.MaxInt} {
			for _, e := range []api.Entry{{}, made(n+1, "a"), made(n+1, "t1"), made(0, ""), dropped(1), dropped(0), indexed(1, "f"), indexed(1, ""), indexed(99, "f")} {
				e.Kind = kind
				if got := b.c.Apply(e); got != api.OK {
					t.Fatal(n, kind, got)
				}
			}
			sound(t, b.c)
		}
		same(t, b.c, b.l)
	}
}

// What an entry of a kind does not tell is not looked at.
func TestOtherFields(t *testing.T) {
	b := newBoth()
	for _, e := range []api.Entry{made(1, "a"), made(2, "b"), indexed(1, "f"), indexed(2, "f"), dropped(1), dropped(1), made(3, "b"), made(3, "a")} {
		e.Doc, e.Version, e.Gone = -5, math.MaxInt, true
		e.Data = api.Value{Kind: 99, Text: "x", Kids: []api.Value{{}}}
		e.DataHash[3] = 7
		e.At = api.Address{Block: -1, Entry: 77}
		if e.Kind == api.EntryDrop {
			e.Text = strings.Repeat("n", 50)
		}
		b.apply(t, e)
		same(t, b.c, b.l)
	}
	if len(b.c.All()) != 3 {
		t.Error(b.c.All())
	}
}

// P14.1, W3: an error changes nothing.
func TestErrorsChangeNothing(t *testing.T) {
	for _, n := range sizes() {
		b := tables(t, n)
		if n > 0 && n%3 != 0 {
			for i := range 16 {
				b.apply(t, indexed(n, named(i)))
			}
		}
		wrong := []api.Entry{made(n+2, "a"), made(n, "a"), made(0, "a"), made(n+1, ""), made(n+1, strings.Repeat("n", 41)), indexed(n+1, "f"), indexed(0, "f"), dropped(n + 1), dropped(0), dropped(-1)}
		for i := 1; i <= n; i++ {
			wrong = append(wrong, indexed(i, ""), indexed(i, strings.Repeat("n", 41)))
			if i%3 == 0 && i < n {
				wrong = append(wrong, dropped(i), indexed(i, "f"))
			} else {
				wrong = append(wrong, made(n+1, named(i)))
			}
			if i%3 != 0 && i%5 > 0 {
				wrong = append(wrong, indexed(i, "t0"))
			}
		}
		if n == 64 {
			wrong = append(wrong, made(65, "a"), indexed(64, "more"))
		}
		for i, e := range wrong {
			if got := b.apply(t, e); got == api.OK {
				t.Fatalf("%d tables: %v is OK", n, e)
			}
			if sound(t, b.c); i%7 == 0 || n < 40 {
				same(t, b.c, b.l)
			}
		}
		same(t, b.c, b.l)
	}
}

// P14.2

func TestFind(t *testing.T) {
	b := newBoth()
	b.must(t, made(1, "a"), made(2, "b"), dropped(1), made(3, "a"), indexed(3, "f"), made(4, "c"), dropped(4))
	for _, x := range []struct {
		name string
		id   int
		err  api.Errno
	}{{"a", 3, api.OK}, {"b", 2, api.OK}, {"c", 0, api.ErrName}, {"", 0, api.ErrName}, {"d", 0, api.ErrName}, {"A", 0, api.ErrName}, {"ab", 0, api.ErrName}, {"f", 0, api.ErrName}, {strings.Repeat("a", 1<<20), 0, api.ErrName}} {
		got, err := b.c.Find(x.name)
		if got.ID != x.id || err != x.err {
			t.Errorf("Find(%.50q): %v %v", x.name, got, err)
		}
		if err != api.OK && !sameTable(got, Table{}) {
			t.Errorf("Find(%.50q): %v beside an error", x.name, got)
		}
		if err == api.OK && got.Dropped {
			t.Errorf("Find(%.50q): dropped", x.name)
		}
	}
}

func TestTable(t *testing.T) {
	b := newBoth()
	b.must(t, made(1, "a"), made(2, "b"), indexed(1, "f"), indexed(2, "g"), indexed(2, "f"), dropped(1))
	for id, want := range map[int]Table{1: {ID: 1, Name: "a", Dropped: true}, 2: {ID: 2, Name: "b", Indexes: []Index{{"g"}, {"f"}}}} {
		if got, err := b.c.Table(id); err != api.OK || !sameTable(got, want) {
			t.Error(id, got, err)
		}
	}
	for _, id := range []int{math.MinInt, -64, -1, 0, 3, 64, 65, 66, math.MaxInt} {
		if got, err := b.c.Table(id); err != api.ErrNone || !sameTable(got, Table{}) {
			t.Error(id, got, err)
		}
	}
}

func TestAll(t *testing.T) {
	for _, n := range sizes() {
		b := tables(t, n)
		all := b.c.All()
		if len(all) != n {
			t.Fatal(n, len(all))
		}
		for i, x := range all {
			gone := (i+1)%3 == 0 && i+1 < n
			want := (i + 1) % 5
			if gone {
				want = 0
			}
			if x.ID != i+1 || x.Name != named(i+1) || x.Dropped != gone || len(x.Indexes) != want {
				t.Fatal(n, x)
			}
		}
		same(t, b.c, b.l)
	}
}

func TestHas(t *testing.T) {
	b := newBoth()
	b.must(t, made(1, "a"), made(2, "b"), indexed(1, "f"), indexed(2, "g"))
	for _, x := range []struct {
		id    int
		field string
		want  bool
	}{{1, "f", true}, {2, "g", true}, {1, "g", false}, {2, "f", false}, {1, "", false}, {1, "a", false}, {1, "F", false}, {1, "ff", false}, {0, "f", false}, {3, "f", false}, {-1, "f", false}, {65, "f", false}, {math.MaxInt, "f", false}, {math.MinInt, "g", false}, {1, strings.Repeat("f", 1<<20), false}} {
		if got := b.c.Has(x.id, x.field); got != x.want {
			t.Errorf("Has(%d, %.50q): %v", x.id, x.field, got)
		}
	}
	b.must(t, dropped(1))
	if b.c.Has(1, "f") || !b.c.Has(2, "g") {
		t.Error("behind a drop")
	}
}

// P14.3

// Nothing done to one is seen in the other, at whatever time it was copied, and whichever goes on.
func TestCopy(t *testing.T) {
	for _, n := range sizes() {
		for _, other := range []bool{false, true} {
			b := tables(t, n)
			c := b.copy()
			same(t, c.c, c.l)
			one, two := b, c
			if other {
				one, two = c, b
			}
			change(t, one)
			same(t, one.c, one.l)
			same(t, two.c, two.l)
			for id := n; id >= 1; id-- {
				two.apply(t, indexed(id, "other"))
			}
			two.apply(t, made(n+1, "other"))
			two.apply(t, dropped(1))
			same(t, two.c, two.l)
			same(t, one.c, one.l)
			third := one.copy()
			change(t, two)
			same(t, third.c, third.l)
			same(t, two.c, two.l)
			same(t, one.c, one.l)
		}
	}
}

// change does all that can be done to each table.
func change(t *testing.T, b both) {
	t.Helper()
	n := len(b.l.all())
	for id := 1; id <= n; id++ {
		b.apply(t, indexed(id, "new"))
		b.apply(t, indexed(id, "newer"))
		if id%2 == 0 {
			b.apply(t, dropped(id))
		}
	}
	for id := n + 1; id <= n+3; id++ {
		b.apply(t, made(id, named(id)+"new"))
		b.apply(t, indexed(id, "new"))
	}
}

func TestNil(t *testing.T) {
	var c *Catalog
	for _, e := range []api.Entry{{}, made(1, "a"), made(0, ""), dropped(1), indexed(1, "f"), {Kind: api.EntryStatement, Text: "x"}, {Kind: api.EntryDelete}, {Kind: -1}} {
		if got := c.Apply(e); got != api.ErrArg {
			t.Error(e, got)
		}
	}
	for _, name := range []string{"", "a", "\xff"} {
		if x, e := c.Find(name); e != api.ErrName || !sameTable(x, Table{}) {
			t.Error(x, e)
		}
	}
	for _, id := range ids() {
		if x, e := c.Table(id); e != api.ErrNone || !sameTable(x, Table{}) {
			t.Error(id, x, e)
		}
		if c.Has(id, "") || c.Has(id, "f") {
			t.Error(id)
		}
	}
	if c.Copy() != nil || len(c.All()) != 0 {
		t.Error(c.Copy(), c.All())
	}
}

func TestNew(t *testing.T) {
	if New() == nil || New() == New() {
		t.Fatal("not a new one")
	}
	b := newBoth()
	same(t, b.c, b.l)
	c := b.copy()
	change(t, b)
	same(t, b.c, b.l)
	same(t, c.c, c.l)
}

// Scripts that are drawn, over several copies, each answer held against the log's.
func TestScripts(t *testing.T) {
	for seed := range 300 {
		r := rand.New(rand.NewSource(int64(seed)))
		list := []both{newBoth()}
		few := 1 + r.Intn(12)
		for range 50 + r.Intn(400) {
			b := list[r.Intn(len(list))]
			b.apply(t, drawn(r, len(b.l.all()), few))
			if sound(t, b.c); r.Intn(60) == 0 && len(list) < 4 {
				list = append(list, b.copy())
			}
		}
		for _, b := range list {
			same(t, b.c, b.l)
		}
	}
}

// drawn is an entry for a catalog of n tables, right more often than wrong.
func drawn(r *rand.Rand, n, few int) api.Entry {
	name := named(r.Intn(few * 3))
	if r.Intn(15) == 0 {
		name = strings.Repeat("n", []int{0, 1, 39, 40, 41, 300}[r.Intn(6)])
	}
	id := 1 + r.Intn(n+1)
	if r.Intn(15) == 0 {
		id = ids()[r.Intn(len(ids()))]
	}
	switch r.Intn(12) {
	case 0, 1, 2:
		return made([]int{n + 1, n + 1, id}[r.Intn(3)], name)
	case 3:
		return dropped(id)
	case 4:
		return api.Entry{Kind: r.Intn(12) - 2, Table: id, Text: name}
	}
	return indexed(id, name)
}
