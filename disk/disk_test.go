package disk

import (
	"bytes"
	"fmt"
	"math"
	"math/rand"
	"slices"
	"strings"
	"sync"
	"testing"

	"scrivener/api"
)

const noName65 = "0123456789012345678901234567890123456789012345678901234567890123x"

func made(t testing.TB, room int) *Disk {
	t.Helper()
	d, e := New(room)
	if d == nil || e != api.OK {
		t.Fatalf("New(%d): %v, %v", room, d, e)
	}
	return d
}

// step is one of the five; its error is looked at where it stands alone.
type step struct {
	what, name, to string
	n              int
	b              []byte
}

func (s step) do(d *Disk) api.Errno {
	switch s.what {
	case "append":
		return d.Append(s.name, s.b)
	case "sync":
		return d.Sync(s.name)
	case "truncate":
		return d.Truncate(s.name, s.n)
	case "rename":
		return d.Rename(s.name, s.to)
	}
	return d.Remove(s.name)
}

func (s step) String() string {
	return fmt.Sprintf("%s(%.20q, %.20q, %d, %d bytes)", s.what, s.name, s.to, s.n, len(s.b))
}

func put(name, b string) step     { return step{what: "append", name: name, b: []byte(b)} }
func sync1(name string) step      { return step{what: "sync", name: name} }
func cut(name string, n int) step { return step{what: "truncate", name: name, n: n} }
func moved(old, name string) step { return step{what: "rename", name: old, to: name} }
func gone(name string) step       { return step{what: "remove", name: name} }
func fiveOf(a, b string) []step {
	return []step{put(a, "x"), sync1(a), cut(a, 0), moved(a, b), gone(a)}
}
func long(n int) string             { return strings.Repeat("n", n) }
func name(i int) string             { return fmt.Sprintf("%04d", i) }
func filled(n int, c string) string { return strings.Repeat(c, n) }

func do(t *testing.T, d *Disk, steps ...step) {
	t.Helper()
	for _, s := range steps {
		want(t, d, s, api.OK)
	}
}

func want(t *testing.T, d *Disk, s step, e api.Errno) {
	t.Helper()
	if got := s.do(d); got != e {
		t.Errorf("%v: %v, want %v", s, got, e)
	}
}

// look is all that can be told of a disk but its fuse and its room: each file
// with its bytes, a bar where they begin not to last, and Used.
func look(d *Disk) string {
	kept := d.Copy()
	kept.Crash(0)
	var out []string
	for _, name := range d.List() {
		b, e := d.Read(name)
		k, _ := kept.Read(name)
		if e != api.OK || !bytes.HasPrefix(b, k) {
			return fmt.Sprintf("torn: %s %q %q %v", name, b, k, e)
		}
		out = append(out, fmt.Sprintf("%s=%s|%s", name, k, b[len(k):]))
	}
	return strings.Join(append(out, fmt.Sprint(d.Used())), " ")
}

func see(t *testing.T, d *Disk, want string) {
	t.Helper()
	if got := look(d); got != want {
		t.Errorf("the disk has %.200s, want %.200s", got, want)
	}
}

// P3.1

func TestNewRoom(t *testing.T) {
	for _, room := range []int{math.MinInt, -1 << 31, -2, -1, 1<<30 + 1, 1<<31 - 1, 1 << 31, 1 << 32, math.MaxInt} {
		if d, e := New(room); d != nil || e != api.ErrArg {
			t.Errorf("New(%d): %v, %v", room, d, e)
		}
	}
	for _, room := range []int{0, 1, 1<<30 - 1, 1 << 30} {
		d := made(t, room)
		see(t, d, "0")
		if len(d.List()) != 0 {
			t.Error(room, d.List())
		}
	}
}

func TestNewHasNoFuse(t *testing.T) {
	d := made(t, 10)
	for range 1000 {
		do(t, d, put("a", ""), sync1("a"), cut("a", 0), moved("a", "b"), gone("b"))
	}
}

func TestDeadIsAheadOfAll(t *testing.T) {
	d := made(t, 3)
	do(t, d, put("a", "abc"))
	d.Fuse(0)
	for _, name := range []string{"", noName65, "a", "none"} {
		for _, s := range append(fiveOf(name, "b"), fiveOf("a", name)...) {
			want(t, d, s, api.ErrDead)
		}
	}
	want(t, d, put("a", "too much"), api.ErrDead)
	want(t, d, cut("a", -1), api.ErrDead)
	see(t, d, "a=|abc 3")
}

func TestNames(t *testing.T) {
	for _, name := range []string{"", noName65, long(65), long(66), long(128), long(256), long(1 << 16), strings.Repeat("\x00", 65)} {
		d := made(t, 5)
		do(t, d, put("a", "abc"))
		for _, s := range fiveOf(name, "b") {
			want(t, d, s, api.ErrArg)
		}
		want(t, d, put(name, "too much"), api.ErrArg)
		want(t, d, cut(name, -1), api.ErrArg)
		want(t, d, moved("a", name), api.ErrArg)
		want(t, d, moved(name, name), api.ErrArg)
		want(t, d, moved("none", name), api.ErrArg)
		see(t, d, "a=|abc 3")
		if b, e := d.Read(name); len(b) != 0 || e != api.ErrNone {
			t.Errorf("Read(%.10q): %q %v", name, b, e)
		}
	}
	for _, name := range []string{"x", "\x00", "\xff", " ", "/", "..", "é", long(2), long(63), long(64), strings.Repeat("\xfe", 64)} {
		d := made(t, 5)
		do(t, d, put(name, "abc"), sync1(name), cut(name, 2), put("a", "z"), moved("a", name), moved(name, "a"), moved("a", name))
		see(t, d, name+"=|z 1")
		do(t, d, gone(name))
		see(t, d, "0")
	}
}

func TestNamesAreWholeAndByBytes(t *testing.T) {
	d := made(t, 100)
	names := []string{"a", "A", "a\x00", "\x00a", "a ", "aa", "\xff", "\xc3\xa9", "e\xcc\x81"}
	for i, name := range names {
		do(t, d, put(name, filled(i, "z")))
	}
	for i, name := range names {
		if b, e := d.Read(name); len(b) != i || e != api.OK {
			t.Errorf("%q: %q %v", name, b, e)
		}
	}
	if len(d.List()) != len(names) {
		t.Errorf("%q", d.List())
	}
}

// P3.2

func TestAppend(t *testing.T) {
	d := made(t, 100)
	do(t, d, put("a", ""))
	see(t, d, "a=| 0")
	do(t, d, put("a", ""), put("a", "12"), put("b", "x"), put("a", "345"))
	see(t, d, "a=|12345 b=|x 6")
	do(t, d, put("a", ""))
	see(t, d, "a=|12345 b=|x 6")
	if e := d.Append("c", []byte{}); e != api.OK {
		t.Error(e)
	}
	see(t, d, "a=|12345 b=|x c=| 6")
}

func TestAppendKeepsWhatLasts(t *testing.T) {
	d := made(t, 100)
	do(t, d, put("a", "12"), sync1("a"), put("a", "345"))
	see(t, d, "a=12|345 5")
	do(t, d, put("a", "6"), put("b", ""))
	see(t, d, "a=12|3456 b=| 6")
}

func TestAppendAnyBytes(t *testing.T) {
	d := made(t, 1<<20)
	var all []byte
	for i := range 1000 {
		b := make([]byte, i%300)
		for j := range b {
			b[j] = byte(i*j + i + j)
		}
		all = append(all, b...)
		do(t, d, step{what: "append", name: "a", b: b})
	}
	if got, e := d.Read("a"); !bytes.Equal(got, all) || e != api.OK || d.Used() != len(all) {
		t.Error(len(got), len(all), e, d.Used())
	}
}

func TestRoom(t *testing.T) {
	d := made(t, 10)
	want(t, d, put("a", filled(11, "x")), api.ErrFull)
	want(t, d, put("a", filled(1<<12, "x")), api.ErrFull)
	see(t, d, "0")
	do(t, d, put("a", filled(10, "x")))
	want(t, d, put("a", "y"), api.ErrFull)
	want(t, d, put("b", "y"), api.ErrFull)
	do(t, d, put("a", ""), put("b", ""))
	see(t, d, "a=|xxxxxxxxxx b=| 10")
	do(t, d, cut("a", 4))
	want(t, d, put("b", "1234567"), api.ErrFull)
	do(t, d, put("b", "123"))
	want(t, d, put("a", "4567"), api.ErrFull)
	do(t, d, put("a", "456"))
	see(t, d, "a=|xxxx456 b=|123 10")
	do(t, d, gone("a"), put("c", "1234567"))
	want(t, d, put("c", "8"), api.ErrFull)
	do(t, d, moved("b", "c"), put("d", "1234567"))
	want(t, d, put("d", "8"), api.ErrFull)
	d.Crash(1)
	see(t, d, "c=1| d=1| 2")
	want(t, d, put("d", "234567890"), api.ErrFull)
	do(t, d, put("d", "23456789"))
}

func TestNoRoom(t *testing.T) {
	d := made(t, 0)
	do(t, d, put("a", ""), put("a", ""), sync1("a"), cut("a", 0), moved("a", "b"))
	want(t, d, put("b", "x"), api.ErrFull)
	want(t, d, put("c", "x"), api.ErrFull)
	see(t, d, "b=| 0")
}

func TestGreatestRoom(t *testing.T) {
	d := made(t, 1<<30)
	b := make([]byte, 1<<24)
	b[len(b)-1] = 1
	do(t, d, step{what: "append", name: "a", b: b}, step{what: "append", name: "a", b: b[:1<<20]})
	d.Crash(math.MaxInt)
	if d.Used() > 1<<24+1<<20 {
		t.Error(d.Used())
	}
}

func TestMaxFiles(t *testing.T) {
	d := made(t, 10)
	for i := range api.MaxFiles {
		do(t, d, put(name(i), ""))
	}
	before := look(d)
	want(t, d, put("more", ""), api.ErrFull)
	want(t, d, put("more", "x"), api.ErrFull)
	if got := look(d); got != before || len(d.List()) != api.MaxFiles {
		t.Error("a refused file is there")
	}
	do(t, d, put(name(7), "x"), moved(name(8), "other"))
	want(t, d, put(name(8), ""), api.ErrFull)
	do(t, d, gone(name(9)), put("more", "y"))
	want(t, d, put(name(9), ""), api.ErrFull)
	do(t, d, moved(name(10), name(11)), put(name(10), ""))
	want(t, d, put(name(9), ""), api.ErrFull)
	if len(d.List()) != api.MaxFiles || d.Used() != 2 {
		t.Error(len(d.List()), d.Used())
	}
}

func TestSync(t *testing.T) {
	d := made(t, 100)
	want(t, d, sync1("a"), api.ErrNone)
	see(t, d, "0")
	do(t, d, put("a", "123"), put("b", "xy"), sync1("a"))
	see(t, d, "a=123| b=|xy 5")
	do(t, d, put("a", "45"))
	see(t, d, "a=123|45 b=|xy 7")
	do(t, d, sync1("a"), sync1("a"))
	see(t, d, "a=12345| b=|xy 7")
	want(t, d, sync1("c"), api.ErrNone)
	do(t, d, put("c", ""), sync1("c"))
	see(t, d, "a=12345| b=|xy c=| 7")
}

func TestTruncate(t *testing.T) {
	d := made(t, 100)
	want(t, d, cut("a", 0), api.ErrNone)
	want(t, d, cut("a", -1), api.ErrNone)
	do(t, d, put("a", "12345"), put("b", "xy"))
	for _, n := range []int{-1, 6, 7, 1 << 20, 1<<32 + 2, -1<<32 + 2, math.MinInt, math.MaxInt} {
		want(t, d, cut("a", n), api.ErrArg)
	}
	do(t, d, cut("a", 5))
	see(t, d, "a=|12345 b=|xy 7")
	do(t, d, cut("a", 3))
	see(t, d, "a=|123 b=|xy 5")
	want(t, d, cut("a", 4), api.ErrArg)
	do(t, d, cut("a", 0), cut("a", 0))
	see(t, d, "a=| b=|xy 2")
	want(t, d, cut("a", 1), api.ErrArg)
}

func TestTruncateOfWhatLasts(t *testing.T) {
	for n, want := range []string{"a=|", "a=1|", "a=12|", "a=123|", "a=123|4", "a=123|45"} {
		d := made(t, 100)
		do(t, d, put("a", "123"), sync1("a"), put("a", "45"), cut("a", n))
		see(t, d, fmt.Sprint(want, " ", n))
		do(t, d, put("a", "xyz"))
		see(t, d, fmt.Sprint(want, "xyz ", n+3))
	}
}

// P3.3

func TestRename(t *testing.T) {
	d := made(t, 100)
	want(t, d, moved("a", "b"), api.ErrNone)
	want(t, d, moved("a", "a"), api.ErrNone)
	do(t, d, put("a", "123"), sync1("a"), put("a", "45"), put("b", "xy"), sync1("b"))
	want(t, d, moved("none", "a"), api.ErrNone)
	want(t, d, moved("none", "none"), api.ErrNone)
	do(t, d, moved("a", "a"))
	see(t, d, "a=123|45 b=xy| 7")
	do(t, d, moved("a", "c"))
	see(t, d, "b=xy| c=123|45 7")
	want(t, d, moved("a", "b"), api.ErrNone)
	do(t, d, moved("c", "b"))
	see(t, d, "b=123|45 5")
	if b, e := d.Read("c"); len(b) != 0 || e != api.ErrNone {
		t.Error(b, e)
	}
	do(t, d, put("c", "new"), put("b", "6"))
	see(t, d, "b=123|456 c=|new 9")
}

func TestRenameLastsAtOnce(t *testing.T) {
	d := made(t, 100)
	do(t, d, put("a", "12"), sync1("a"), put("b", "xyz"), sync1("b"), put("c", "c"), moved("a", "b"), moved("c", "d"))
	d.Crash(0)
	see(t, d, "b=12| d=| 2")
}

func TestRemove(t *testing.T) {
	d := made(t, 100)
	want(t, d, gone("a"), api.ErrNone)
	do(t, d, put("a", "123"), sync1("a"), put("b", "xy"), gone("a"))
	see(t, d, "b=|xy 2")
	want(t, d, gone("a"), api.ErrNone)
	want(t, d, sync1("a"), api.ErrNone)
	d.Crash(5)
	see(t, d, "b=xy| 2")
	do(t, d, put("a", "4"))
	see(t, d, "a=|4 b=xy| 3")
}

// P3.4

func TestFuseCountsEachOfTheFive(t *testing.T) {
	steps := []step{put("a", "12"), sync1("a"), cut("a", 1), moved("a", "b"), moved("b", "b"), put("b", ""), gone("b"), put("c", "")}
	for n := range len(steps) + 1 {
		d := made(t, 100)
		d.Fuse(n)
		do(t, d, steps[:n]...)
		before := look(d)
		for _, s := range steps {
			want(t, d, s, api.ErrDead)
		}
		see(t, d, before)
	}
}

func TestFuseDoesNotCountErrors(t *testing.T) {
	bad := []struct {
		s step
		e api.Errno
	}{
		{put("", ""), api.ErrArg}, {put(noName65, ""), api.ErrArg}, {put("a", "12345678901"), api.ErrFull}, {put("n", "12345678901"), api.ErrFull},
		{sync1("n"), api.ErrNone}, {sync1(""), api.ErrArg}, {cut("n", 0), api.ErrNone}, {cut("a", -1), api.ErrArg}, {cut("a", 4), api.ErrArg},
		{moved("n", "a"), api.ErrNone}, {moved("", "a"), api.ErrArg}, {moved("a", ""), api.ErrArg}, {gone("n"), api.ErrNone}, {gone(""), api.ErrArg},
	}
	d := made(t, 10)
	do(t, d, put("a", "12"), sync1("a"), put("a", "3"))
	d.Fuse(2)
	for range 2 {
		for _, x := range bad {
			want(t, d, x.s, x.e)
		}
		see(t, d, "a=12|3 3")
		do(t, d, put("a", ""))
	}
	for _, x := range bad {
		want(t, d, x.s, api.ErrDead)
	}
	see(t, d, "a=12|3 3")
}

func TestFuseDoesNotCountWhatAsks(t *testing.T) {
	d := made(t, 10)
	d.Fuse(1)
	for range 5 {
		d.Read("a")
		d.Read("")
		d.List()
		d.Used()
		d.Copy()
	}
	do(t, d, put("a", "1"))
	want(t, d, sync1("a"), api.ErrDead)
	if b, e := d.Read("a"); string(b) != "1" || e != api.OK {
		t.Errorf("a burnt disk is read: %q %v", b, e)
	}
	see(t, d, "a=|1 1")
}

func TestFuseOverFuse(t *testing.T) {
	d := made(t, 10)
	do(t, d, put("a", ""))
	d.Fuse(5)
	d.Fuse(1)
	do(t, d, sync1("a"))
	want(t, d, sync1("a"), api.ErrDead)
	d.Fuse(2)
	do(t, d, sync1("a"), sync1("a"))
	want(t, d, sync1("a"), api.ErrDead)
	d.Fuse(0)
	want(t, d, sync1("a"), api.ErrDead)
	for _, n := range []int{-1, -2, math.MinInt} {
		d.Fuse(0)
		d.Fuse(n)
		for range 300 {
			do(t, d, sync1("a"))
		}
		d.Fuse(2)
		d.Fuse(n)
		for range 300 {
			do(t, d, sync1("a"))
		}
	}
	d.Fuse(math.MaxInt)
	do(t, d, sync1("a"), sync1("a"), sync1("a"))
}

// P3.5, P3.7

func TestExample(t *testing.T) {
	d := made(t, 20)
	do(t, d, put("a", "12345"), sync1("a"), put("a", "678"))
	d.Crash(1)
	see(t, d, "a=123456| 6")
}

func TestCrash(t *testing.T) {
	for _, x := range []struct {
		draw int
		want string
	}{
		{math.MinInt, "all=12345| none=| nothing=| part=ab| 7"},
		{-1, "all=12345| none=| nothing=| part=ab| 7"},
		{0, "all=12345| none=| nothing=| part=ab| 7"},
		{1, "all=12345| none=w| nothing=| part=abc| 9"},
		{2, "all=12345| none=wx| nothing=| part=abcd| 11"},
		{3, "all=12345| none=wxy| nothing=| part=ab| 10"},
		{4, "all=12345| none=wxyz| nothing=| part=abc| 12"},
		{5, "all=12345| none=| nothing=| part=abcd| 9"},
		{6, "all=12345| none=w| nothing=| part=ab| 8"},
		{15, "all=12345| none=| nothing=| part=ab| 7"},
		{14, "all=12345| none=wxyz| nothing=| part=abcd| 13"},
		// 2^63 - 1 modulo 5 is 2, modulo 3 is 1.
		{math.MaxInt, "all=12345| none=wx| nothing=| part=abc| 10"},
	} {
		d := made(t, 20)
		do(t, d, put("all", "12345"), sync1("all"), put("part", "ab"), sync1("part"), put("part", "cd"), put("none", "wxyz"), put("nothing", ""))
		d.Crash(x.draw)
		see(t, d, x.want)
		d.Crash(1)
		see(t, d, x.want)
	}
}

func TestCrashTakesTheFuse(t *testing.T) {
	for _, n := range []int{0, 1, 5} {
		d := made(t, 20)
		d.Fuse(n)
		d.Crash(3)
		for range 20 {
			do(t, d, put("a", "x"))
		}
	}
}

func TestEachLengthAndDraw(t *testing.T) {
	const row = "abcdefgh"
	for kept := range len(row) + 1 {
		for loose := range len(row) - kept + 1 {
			for draw := range 20 {
				d := made(t, 20)
				do(t, d, put("a", row[:kept]), sync1("a"), put("a", row[kept:kept+loose]))
				d.Crash(draw)
				n := kept + draw%(loose+1)
				see(t, d, fmt.Sprintf("a=%s| %d", row[:n], n))
			}
		}
	}
}

func TestSyncedStays(t *testing.T) {
	for draw := range 40 {
		d := made(t, 1000)
		want := ""
		for i := range 10 {
			do(t, d, put("a", filled(i, "s")), sync1("a"))
			b, _ := d.Read("a")
			want = string(b)
			do(t, d, put("a", filled(i, "l")), put("a", "m"))
			d.Crash(draw)
			if b, e := d.Read("a"); e != api.OK || !strings.HasPrefix(want+filled(i, "l")+"m", string(b)) || len(b) < len(want) {
				t.Errorf("draw %d: %q behind %q, %v", draw, b, want, e)
			}
		}
	}
}

// P3.6

func TestRead(t *testing.T) {
	d := made(t, 10)
	do(t, d, put("a", "12"), put("e", ""))
	for name, x := range map[string]struct {
		b string
		e api.Errno
	}{"a": {"12", api.OK}, "e": {"", api.OK}, "n": {"", api.ErrNone}, "": {"", api.ErrNone}, noName65: {"", api.ErrNone}} {
		if b, e := d.Read(name); string(b) != x.b || e != x.e {
			t.Errorf("%q: %q %v", name, b, e)
		}
	}
}

func TestListRises(t *testing.T) {
	names := []string{"b", "a", "\xff", "aa", "B", "\x00", "a\x00", "10", "9", "é", "z", "ab", long(64), long(63)}
	d := made(t, 10)
	for _, name := range names {
		do(t, d, put(name, ""))
	}
	slices.Sort(names)
	if got := d.List(); !slices.Equal(got, names) {
		t.Errorf("%q", got)
	}
}

func TestCopy(t *testing.T) {
	d := made(t, 10)
	do(t, d, put("a", "12"), sync1("a"), put("a", "34"), put("b", ""), put("c", "x"), sync1("c"))
	before := look(d)
	for _, n := range []int{-1, 0, 1} {
		d.Fuse(n)
		c := d.Copy()
		see(t, c, before)
		do(t, c, put("a", "56789"), sync1("a"), gone("b"), moved("c", "d"), cut("d", 0))
		see(t, c, "a=123456789| d=| 9")
		want(t, c, put("d", "xy"), api.ErrFull)
		c.Crash(0)
		see(t, d, before)
	}
	do(t, d, sync1("c"))
	want(t, d, sync1("c"), api.ErrDead)
	d.Fuse(-1)
	c := d.Copy()
	do(t, d, cut("a", 1), put("a", "zz"), gone("c"))
	see(t, c, before)
	if e := made(t, 0).Copy().Append("a", []byte("x")); e != api.ErrFull {
		t.Error("a copy has the same room", e)
	}
	c.Fuse(0)
	do(t, d, put("a", ""))
}

// P3.8, W6, W7

func TestHandedIn(t *testing.T) {
	room := []byte("0123456789")
	b := room[2:5]
	d := made(t, 100)
	for range 3 {
		if e := d.Append("a", b); e != api.OK {
			t.Error(e)
		}
	}
	do(t, d, put("a", "xyz"), sync1("a"), cut("a", 4), put("a", "w"))
	d.Crash(1)
	if string(room) != "0123456789" {
		t.Errorf("changed: %q", room)
	}
	for i := range room {
		room[i] = '!'
	}
	see(t, d, "a=2342w| 5")
}

func TestAnswered(t *testing.T) {
	d := made(t, 100)
	do(t, d, put("a", "12345"), cut("a", 3), put("b", "xy"), put("e", ""))
	before := look(d)
	c := d.Copy()
	for _, name := range []string{"a", "b", "e"} {
		one, _ := d.Read(name)
		two, _ := d.Read(name)
		was := string(two)
		for i := range one[:cap(one)] {
			one[:cap(one)][i] = '!'
		}
		_ = append(one, '!')
		if string(two) != was {
			t.Errorf("%s: two answers share: %q", name, two)
		}
	}
	one, two := d.List(), d.List()
	for i := range one[:cap(one)] {
		one[:cap(one)][i] = "!"
	}
	if !slices.Equal(two, []string{"a", "b", "e"}) {
		t.Errorf("two answers share: %q", two)
	}
	see(t, d, before)
	see(t, c, before)
}

func TestAnswersStay(t *testing.T) {
	d := made(t, 100)
	do(t, d, put("a", "123"), put("b", ""))
	b, _ := d.Read("a")
	names := d.List()
	do(t, d, put("a", "4"), cut("a", 0), put("a", "xyz"), gone("b"), moved("a", "c"))
	d.Crash(2)
	if string(b) != "123" || !slices.Equal(names, []string{"a", "b"}) {
		t.Errorf("%q %q", b, names)
	}
}

func TestCopyAnswersShareNothing(t *testing.T) {
	d := made(t, 100)
	do(t, d, put("a", "123456"), cut("a", 3), put("e", "1"), cut("e", 0))
	c := d.Copy()
	do(t, d, put("a", "x"), put("e", "x"))
	do(t, c, put("a", "y"), put("e", "y"))
	see(t, d, "a=|123x e=|x 5")
	see(t, c, "a=|123y e=|y 5")
}

func TestNil(t *testing.T) {
	for _, d := range []*Disk{nil, {}} {
		for _, s := range append(fiveOf("a", "b"), fiveOf("", "")...) {
			want(t, d, s, api.ErrArg)
		}
		d.Fuse(0)
		want(t, d, put("a", ""), api.ErrArg)
		d.Fuse(-1)
		d.Crash(1)
		d.Crash(-1)
		for _, name := range []string{"a", "", noName65} {
			if b, e := d.Read(name); b != nil || e != api.ErrNone {
				t.Error(b, e)
			}
		}
		if d.List() != nil || d.Used() != 0 || d.Copy() != nil {
			t.Error(d.List(), d.Used(), d.Copy())
		}
	}
}

// W8: of a Disk that was copied as a value one goes on.
func TestCopiedAsValue(t *testing.T) {
	for _, second := range []bool{false, true} {
		d := made(t, 10)
		do(t, d, put("a", "12"))
		d.Fuse(2)
		other := *d
		if second {
			d = &other
		}
		do(t, d, put("a", "34"), sync1("a"))
		want(t, d, sync1("a"), api.ErrDead)
		d.Crash(0)
		see(t, d, "a=1234| 4")
	}
}

// W9: others may ask, Fuse and Crash while one writes.
func TestOthersMeanwhile(t *testing.T) {
	d := made(t, 1<<20)
	var others sync.WaitGroup
	for k := range 4 {
		others.Go(func() {
			for i := range 300 {
				d.Read(name(i % 10))
				d.List()
				d.Used()
				d.Copy()
				switch k {
				case 0:
					d.Crash(i)
				case 1:
					d.Fuse(i - 1)
				}
			}
		})
	}
	for i := range 3000 {
		n := name(i % 10)
		d.Append(n, []byte("some bytes"))
		d.Sync(n)
		d.Rename(n, name(i%7))
		d.Truncate(n, 3)
		if i%5 == 0 {
			d.Remove(n)
		}
	}
	others.Wait()
	sum := 0
	for _, n := range d.List() {
		b, _ := d.Read(n)
		sum += len(b)
	}
	if d.Used() != sum {
		t.Error(d.Used(), sum)
	}
}

// model is the chapter, clause by clause, over plain texts: what lasts, and
// what stands behind it.
type model struct {
	room, fuse int
	kept       map[string]string
	loose      map[string]string
}

func (m *model) used() (n int) {
	for name := range m.kept {
		n += len(m.kept[name] + m.loose[name])
	}
	return n
}

func (m *model) own(s step) (e api.Errno, after func()) {
	kept, there := m.kept[s.name]
	whole := kept + m.loose[s.name]
	set := func(name, kept, loose string) { m.kept[name], m.loose[name] = kept, loose }
	drop := func(name string) { delete(m.kept, name); delete(m.loose, name) }
	switch s.what {
	case "append":
		if m.used()+len(s.b) > m.room || !there && len(m.kept) == api.MaxFiles {
			return api.ErrFull, nil
		}
		return api.OK, func() { set(s.name, kept, m.loose[s.name]+string(s.b)) }
	case "sync":
		after = func() { set(s.name, whole, "") }
	case "truncate":
		if there && (s.n < 0 || s.n > len(whole)) {
			return api.ErrArg, nil
		}
		after = func() { k := min(s.n, len(kept)); set(s.name, whole[:k], whole[k:s.n]) }
	case "rename":
		after = func() { l := m.loose[s.name]; drop(s.name); set(s.to, kept, l) }
	case "remove":
		after = func() { drop(s.name) }
	}
	if !there {
		return api.ErrNone, nil
	}
	return api.OK, after
}

func (m *model) do(s step) api.Errno {
	names := []string{s.name}
	if s.what == "rename" {
		names = append(names, s.to)
	}
	if m.fuse == 0 {
		return api.ErrDead
	}
	for _, n := range names {
		if n == "" || len(n) > 64 {
			return api.ErrArg
		}
	}
	e, after := m.own(s)
	if e == api.OK {
		after()
		m.fuse--
	}
	return e
}

func (m *model) crash(draw int) {
	for name, loose := range m.loose {
		m.kept[name], m.loose[name] = m.kept[name]+loose[:max(draw, 0)%(len(loose)+1)], ""
	}
	m.fuse = -1
}

func (m *model) look() string {
	var out []string
	for name := range m.kept {
		out = append(out, fmt.Sprintf("%s=%s|%s", name, m.kept[name], m.loose[name]))
	}
	slices.SortFunc(out, func(a, b string) int { return strings.Compare(a[:strings.Index(a, "=")], b[:strings.Index(b, "=")]) })
	return strings.Join(append(out, fmt.Sprint(m.used())), " ")
}

// follow does what a row of bytes says, to a disk and to the model.
func follow(t *testing.T, script []byte) {
	next := func() int {
		if len(script) == 0 {
			return 0
		}
		x := script[0]
		script = script[1:]
		return int(x)
	}
	names := []string{"a", "b", "c", "d", long(64), long(65), "", "\xff"}
	room := next() % 40
	d := made(t, room)
	m := &model{room, -1, map[string]string{}, map[string]string{}}
	var log []string
	for len(script) > 0 {
		what := next() % 16
		s := step{name: names[next()%8], to: names[next()%8], n: next()%12 - 2}
		switch {
		case what < 5:
			s.what, s.b = "append", []byte("0123456789abcdef")[:next()%13]
		case what < 8:
			s.what = "sync"
		case what < 10:
			s.what = "truncate"
		case what < 12:
			s.what = "rename"
		case what == 12:
			s.what = "remove"
		case what == 13:
			log = append(log, fmt.Sprint("crash ", s.n))
			d.Crash(s.n)
			m.crash(s.n)
		case what == 14:
			log = append(log, fmt.Sprint("fuse ", s.n))
			d.Fuse(s.n)
			m.fuse = s.n
		default:
			log = append(log, "copy")
			d = d.Copy()
			m.fuse = -1
		}
		if s.what != "" {
			log = append(log, s.String())
			if got, e := s.do(d), m.do(s); got != e {
				t.Fatalf("room %d, %s: %v, want %v", room, strings.Join(log, "; "), got, e)
			}
		}
		if got, want := look(d), m.look(); got != want {
			t.Fatalf("room %d, %s:\n%q, want\n%q", room, strings.Join(log, "; "), got, want)
		}
	}
}

func TestAgainstModel(t *testing.T) {
	r := rand.New(rand.NewSource(3))
	for range 3000 {
		script := make([]byte, r.Intn(200))
		r.Read(script)
		follow(t, script)
	}
}

func FuzzAnyBytes(f *testing.F) {
	f.Add([]byte("any bytes"))
	f.Add(bytes.Repeat([]byte{20, 0, 0, 1, 5, 9}, 20))
	f.Fuzz(follow)
}
