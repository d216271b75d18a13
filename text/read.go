package text

import (
	"strings"

	"scrivener/api"
	"scrivener/decimal"
)

const numberSigns = "-.0123456789"

// reader goes through a text. Once something was bad, what it tells means nothing.
type reader struct {
	left string
	bad  bool
}

// skip goes over a mark, if it stands next.
func (r *reader) skip(mark string) bool {
	left, is := strings.CutPrefix(r.left, mark)
	r.left = left
	return is
}

// must goes over a mark that has to stand next.
func (r *reader) must(mark string) {
	if !r.skip(mark) {
		r.bad = true
	}
}

func (r *reader) next() byte {
	if r.left == "" {
		r.bad = true
		return 0
	}
	x := r.left[0]
	r.left = r.left[1:]
	return x
}

// run is the next bytes, as long as they are some of these.
func (r *reader) run(of string) string {
	left := strings.TrimLeft(r.left, of)
	got := r.left[:len(r.left)-len(left)]
	r.left = left
	return got
}

// value is what stands next, so deep. It may hold what no value does, or be written as none is: Parse refuses it.
func (r *reader) value(deep int) api.Value {
	if deep > api.MaxDeep || r.left == "" {
		r.bad = true
		return api.Value{}
	}
	switch r.left[0] {
	case 'n':
		r.must(nullWord)
		return api.Value{Kind: api.Null}
	case 't':
		r.must(trueWord)
		return api.Value{Kind: api.Bool, Int: 1}
	case 'f':
		r.must(falseWord)
		return api.Value{Kind: api.Bool}
	case '-', '0', '1', '2', '3', '4', '5', '6', '7', '8', '9':
		return r.number()
	case '@':
		return r.time()
	case '\'':
		return api.Value{Kind: api.Text, Text: r.text()}
	case '#':
		return api.Value{Kind: api.Blob, Text: r.blob()}
	case '[':
		return r.list(deep)
	case '{':
		return r.record(deep)
	}
	r.bad = true
	return api.Value{}
}

func (r *reader) number() api.Value {
	v, e := decimal.Parse(r.run(numberSigns))
	if e != api.OK {
		r.bad = true
	}
	return v
}

func (r *reader) time() api.Value {
	r.must(timeMark)
	v := r.number()
	// One that was a Decimal still has its Scale, so that it is no value.
	v.Kind = api.Time
	return v
}

// text is a Text or a name.
func (r *reader) text() string {
	r.must(quote)
	var b strings.Builder
	for !r.bad {
		switch x := r.next(); x {
		case '\'':
			if !r.skip(quote) {
				return b.String()
			}
			b.WriteByte(x)
		case '\\':
			b.WriteByte(r.pair())
		default:
			b.WriteByte(x)
		}
	}
	return ""
}

func (r *reader) blob() string {
	r.must(blobMark)
	var b strings.Builder
	for r.left != "" && strings.Contains(hexDigits, r.left[:1]) {
		b.WriteByte(r.pair())
	}
	return b.String()
}

// pair is the byte that two digits tell.
func (r *reader) pair() byte {
	high := r.digit()
	low := r.digit()
	return high<<4 | low
}

func (r *reader) digit() byte {
	n := strings.IndexByte(hexDigits, r.next())
	if n < 0 {
		r.bad = true
		return 0
	}
	return byte(n)
}

func (r *reader) list(deep int) api.Value {
	r.must(listStart)
	v := api.Value{Kind: api.List}
	for r.goesOn(len(v.Kids), listEnd) {
		v.Kids = append(v.Kids, r.value(deep+1))
	}
	return v
}

func (r *reader) record(deep int) api.Value {
	r.must(structStart)
	v := api.Value{Kind: api.Struct}
	for r.goesOn(len(v.Kids), structEnd) {
		v.Names = append(v.Names, r.text())
		r.must(behindName)
		v.Kids = append(v.Kids, r.value(deep+1))
	}
	return v
}

// goesOn goes, behind so many Kids, to the next one, or over the end.
func (r *reader) goesOn(kids int, end string) bool {
	if r.bad || r.skip(end) {
		return false
	}
	if kids > 0 {
		r.must(betweenKids)
	}
	return !r.bad
}
