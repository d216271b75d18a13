package order

import (
	"strings"

	"scrivener/api"
	"scrivener/decimal"
	"scrivener/octet"
)

const timeBytes = 8

// reader goes through a key. Once something was bad, what it tells means nothing.
type reader struct {
	k   string
	at  int
	bad bool
}

// take is the next n bytes.
func (r *reader) take(n int) string {
	if n > len(r.k)-r.at {
		r.bad = true
		return ""
	}
	r.at += n
	return r.k[r.at-n : r.at]
}

// until is the bytes ahead of the next mark, and goes over it.
func (r *reader) until(mark string) string {
	n := strings.Index(r.k[r.at:], mark)
	if n < 0 {
		r.bad = true
		return ""
	}
	got := r.take(n)
	r.take(len(mark))
	return got
}

// skip goes over the next byte, if it is x.
func (r *reader) skip(x byte) bool {
	is := r.at < len(r.k) && r.k[r.at] == x
	if is {
		r.at++
	}
	return is
}

func (r *reader) next() byte {
	b := r.take(1)
	if r.bad {
		return 0
	}
	return b[0]
}

// value is what stands next, so deep. It has the form of a value; what it holds is Check's to refuse.
func (r *reader) value(deep int) api.Value {
	if deep > api.MaxDeep {
		r.bad = true
		return api.Value{}
	}
	switch r.next() {
	case nullClass:
		return api.Value{Kind: api.Null}
	case boolClass:
		return api.Value{Kind: api.Bool, Int: int(r.next())}
	case numberClass:
		return r.number()
	case timeClass:
		return api.Value{Kind: api.Time, Int: r.time()}
	case textClass:
		return api.Value{Kind: api.Text, Text: r.text()}
	case blobClass:
		return api.Value{Kind: api.Blob, Text: r.text()}
	case listClass:
		return r.nest(api.List, deep)
	case structClass:
		return r.nest(api.Struct, deep)
	}
	r.bad = true
	return api.Value{}
}

// time is a number that is no int as one below 0: Check refuses it like all that are too great.
func (r *reader) time() int {
	u, _ := octet.ReadBig([]byte(r.take(timeBytes)))
	return int(u)
}

func (r *reader) text() string {
	got := r.until(textEnd)
	s := strings.ReplaceAll(got, zeroText, zero)
	// A byte 00 ahead of any other byte would be written in another way.
	if written(s) != got {
		r.bad = true
	}
	// A piece of the key would keep all of it.
	return strings.Clone(s)
}

func (r *reader) number() api.Value {
	if r.skip(noughtMark) {
		return api.Value{Kind: api.Int}
	}
	from := r.at
	below := r.next() < noughtMark
	end := []byte{endMark}
	if below {
		turnRound(end)
	}
	r.until(string(end))
	if r.bad {
		return api.Value{}
	}
	got := r.k[from:r.at]
	v, e := numberOf([]byte(got), below)
	// What is no number's key was taken for that of another one: this one's is written in another way.
	if e != api.OK || string(appendNumber(nil, v)) != got {
		r.bad = true
	}
	return v
}

// numberOf is the number whose key has b behind its class, if there is one.
func numberOf(b []byte, below bool) (api.Value, api.Errno) {
	if below {
		turnRound(b)
	}
	power, digits := int(b[0])-powerMark, b[1:len(b)-1]
	var size uint64
	for _, d := range digits {
		size = size*10 + uint64(d-firstDigit)
	}
	for range power - len(digits) {
		size *= 10
	}
	n := int(size)
	if below {
		n = -n
	}
	return decimal.Make(n, max(len(digits)-power, 0))
}

// nest is the rest of a List or a Struct.
func (r *reader) nest(kind, deep int) api.Value {
	v := api.Value{Kind: kind}
	for !r.bad && !r.skip(endMark) {
		// Check would refuse more Kids, but in memory they may be far greater than the key.
		if len(v.Kids) == api.MaxFields || kind == api.Struct && !r.skip(fieldMark) {
			r.bad = true
			break
		}
		if kind == api.Struct {
			v.Names = append(v.Names, r.text())
		}
		v.Kids = append(v.Kids, r.value(deep+1))
	}
	return v
}
