package parse

import (
	"math/rand"
	"slices"
	"strings"

	"scrivener/api"
)

// The chapter's grammar as data: of it comes which token is the first that cannot stand where it stands, and
// sentences can be drawn of it. Alternatives stand with / between; what has small letters is a word, what has great
// ones alone is a kind of tokens, what has both is a row.
const grammar = `
Text = Stmt END / Stmt ; END
Stmt = select What from Sources Where Order Limit / insert into NAME value Expr / update NAME As set Sets Where
Stmt = delete from NAME As Where / create table NAME / drop table NAME / create index on NAME ( NAME )
What = value Expr / Items / *
Items = Item / Items , Item
Item = Expr as NAME / Named
Named = Path . NAME / NAME / ( Named )
Sources = Source / Sources , Source
Source = NAME As / history ( NAME ) as NAME / meta ( NAME ) as NAME / Stepped as NAME
Stepped = Path Step / ( Stepped )
As = as NAME /
Sets = Set / Sets , Set
Set = Place = Expr
Place = NAME . NAME / Place . NAME
Where = where Expr /
Order = order by Keys /
Keys = Key / Keys , Key
Key = Expr / Expr desc
Limit = limit INT /
Expr = And / Expr or And
And = Not / And and Not
Not = not Not / Compared
Compared = Sum / Sum Sign Sum / Sum is Unknown / Sum is not Unknown
Unknown = null / missing
Sign = = / != / < / <= / > / >=
Sum = Product / Sum Plus Product
Plus = + / - / ||
Product = Unary / Product * Unary
Unary = - Unary / Path
Path = Primary / Path Step
Step = . NAME / [ Expr ]
Primary = INT / DEC / TEXT / null / true / false / ? / NAME / NAME ( Maybe ) / ( Expr ) / [ Maybe ] / { Fields }
Maybe = Exprs /
Exprs = Expr / Exprs , Expr
Fields = Some /
Some = Field / Some , Field
Field = TEXT : Expr
`

// row is one alternative; symbols below 0 are rows, the others terminals.
type row struct {
	left   int
	right  []int
	offset int // of its points among those of all
}

// tables are the grammar by numbers.
type tables struct {
	rows      []row
	of        map[int][]int // a row's alternatives
	terminals map[string]int
	names     []string // of terminals
	empty     map[int]bool
	height    map[int]int // the least one of a tree under a row
	start     int
	points    int
}

func newTables() *tables {
	t := &tables{of: map[int][]int{}, terminals: map[string]int{}, empty: map[int]bool{}, height: map[int]int{}}
	rows := map[string]int{}
	rowOf := func(name string) int {
		if _, is := rows[name]; !is {
			rows[name] = -1 - len(rows)
		}
		return rows[name]
	}
	for _, line := range strings.Split(strings.TrimSpace(grammar), "\n") {
		name, rest, _ := strings.Cut(line, " =")
		for _, way := range strings.Split(rest+" ", " /") {
			r := row{left: rowOf(name)}
			for _, s := range strings.Fields(way) {
				if s[0] >= 'A' && s[0] <= 'Z' && strings.ToUpper(s) != s {
					r.right = append(r.right, rowOf(s))
					continue
				}
				if _, is := t.terminals[s]; !is {
					t.terminals[s] = len(t.names)
					t.names = append(t.names, s)
				}
				r.right = append(r.right, t.terminals[s])
			}
			r.offset = t.points
			t.points += len(r.right) + 1
			t.of[r.left] = append(t.of[r.left], len(t.rows))
			t.rows = append(t.rows, r)
		}
	}
	t.start = rows["Text"]
	t.measure()
	return t
}

// measure finds which rows may be empty, and the least height of each.
func (t *tables) measure() {
	for range t.rows {
		for _, r := range t.rows {
			empty, high := true, 1
			for _, s := range r.right {
				if s >= 0 {
					empty = false
					continue
				}
				empty = empty && t.empty[s]
				if h := t.height[s]; h == 0 {
					high = 1 << 20
				} else {
					high = max(high, h+1)
				}
			}
			t.empty[r.left] = t.empty[r.left] || empty
			if h := t.height[r.left]; high < 1<<20 && (h == 0 || high < h) {
				t.height[r.left] = high
			}
		}
	}
}

// theGrammar is never changed once it is made.
var theGrammar = newTables()

// terminal is what a token is for the grammar; -1, if it has no such token.
func (t *tables) terminal(x api.Token) int {
	name := x.Text
	switch x.Kind {
	case api.TokName:
		name = "NAME"
	case api.TokInt:
		name = "INT"
	case api.TokDec:
		name = "DEC"
	case api.TokText:
		name = "TEXT"
	case api.TokEnd:
		name = "END"
	}
	if n, is := t.terminals[name]; is {
		return n
	}
	return -1
}

// item is a row that was gone through up to a point, and the place where it began.
type item struct{ row, point, from int }

// way goes by all rows that may be on the way at once (Earley).
type way struct {
	*tables
	sets [][]item
	seen []int16 // by items, one more than the place where they were seen last
}

// firstBad is the first token that can stand behind those ahead of it in no sentence; -1, if there is none.
func (t *tables) firstBad(l []api.Token) int {
	w := &way{t, [][]item{nil}, make([]int16, t.points*(len(l)+1))}
	for _, r := range t.of[t.start] {
		w.add(0, item{r, 0, 0})
	}
	w.close(0)
	for i, x := range l {
		terminal := t.terminal(x)
		w.sets = append(w.sets, nil)
		for _, it := range w.sets[i] {
			if s, is := t.next(it); is && s == terminal {
				w.add(i+1, item{it.row, it.point + 1, it.from})
			}
		}
		if len(w.sets[i+1]) == 0 {
			return i
		}
		w.close(i + 1)
	}
	return -1
}

// next is what comes next in an item, if it is not at its end.
func (t *tables) next(it item) (int, bool) {
	right := t.rows[it.row].right
	if it.point == len(right) {
		return 0, false
	}
	return right[it.point], true
}

func (w *way) add(at int, it item) {
	seen := &w.seen[it.from*w.points+w.rows[it.row].offset+it.point]
	if *seen != int16(at+1) {
		*seen = int16(at + 1)
		w.sets[at] = append(w.sets[at], it)
	}
}

// close adds all that follows at a place.
func (w *way) close(at int) {
	for i := 0; i < len(w.sets[at]); i++ {
		it := w.sets[at][i]
		s, is := w.next(it)
		switch {
		case is && s < 0:
			for _, r := range w.of[s] {
				w.add(at, item{r, 0, at})
			}
			if w.empty[s] {
				w.add(at, item{it.row, it.point + 1, it.from})
			}
		case !is && it.from < at:
			for _, back := range w.sets[it.from] {
				if s, is := w.next(back); is && s == w.rows[it.row].left {
					w.add(at, item{back.row, back.point + 1, back.from})
				}
			}
		}
	}
}

// sentence is one of the row, by names of terminals, drawn so that it is about so high at most.
func (t *tables) sentence(r *rand.Rand, symbol, high int) []string {
	if symbol >= 0 {
		return []string{t.names[symbol]}
	}
	var ways []int
	for _, w := range t.of[symbol] {
		if t.least(w) <= high {
			ways = append(ways, w)
		}
	}
	if len(ways) == 0 {
		ways = []int{slices.MinFunc(t.of[symbol], func(a, b int) int { return t.least(a) - t.least(b) })}
	}
	var out []string
	for _, s := range t.rows[ways[r.Intn(len(ways))]].right {
		out = append(out, t.sentence(r, s, high-1)...)
	}
	return out
}

// least is the least height of a tree under an alternative.
func (t *tables) least(way int) int {
	high := 1
	for _, s := range t.rows[way].right {
		if s < 0 {
			high = max(high, 1+t.height[s])
		}
	}
	return high
}
