package codec

import (
	"cmp"
	"slices"

	"scrivener/api"
	"scrivener/octet"
	"scrivener/value"
)

const maxLength = 1 << 16 // also the greatest count

// reader goes through bytes. Its first error stays: behind it nothing more is taken.
type reader struct {
	b   []byte
	at  int
	err api.Errno
}

// readFirst is the value at the beginning of b and how many bytes it takes. If they are more than
// MaxBytes, it has not all of its Kids.
func readFirst(b []byte) (api.Value, int, api.Errno) {
	r := &reader{b: b}
	v, refused := r.value(1)
	return v, r.at, cmp.Or(r.err, refused)
}

func (r *reader) fail(e api.Errno) { r.err = cmp.Or(r.err, e) }

// take is the next n bytes, as a piece of b itself.
func (r *reader) take(n int) []byte {
	if n > len(r.b)-r.at {
		r.fail(api.ErrShort)
	}
	if r.err != api.OK {
		return nil
	}
	r.at += n
	return r.b[r.at-n : r.at]
}

func (r *reader) next() int {
	b := r.take(1)
	if len(b) == 0 {
		return 0
	}
	return int(b[0])
}

func (r *reader) uvarint() uint64 {
	if r.err != api.OK {
		return 0
	}
	u, n, e := octet.ReadUvarint(r.b[r.at:])
	r.fail(e)
	r.at += n
	return u
}

func (r *reader) signed() int { return int(octet.Zag(r.uvarint())) }

func (r *reader) truth() int {
	x := r.next()
	if x > 1 {
		r.fail(api.ErrForm)
	}
	return x
}

// length is a length or a count.
func (r *reader) length() int {
	u := r.uvarint()
	// Held against the limit ahead of the conversion: not every uint64 is an int.
	if u > maxLength {
		r.fail(api.ErrForm)
		return 0
	}
	return int(u)
}

func (r *reader) text() string { return string(r.take(r.length())) }

// value is the value that stands next, so deep, and Check's error of it.
func (r *reader) value(deep int) (api.Value, api.Errno) {
	if deep > api.MaxDeep {
		r.fail(api.ErrDeep)
	}
	v := api.Value{Kind: r.next()}
	switch v.Kind {
	case api.Null:
	case api.Bool:
		v.Int = r.truth()
	case api.Int:
		v.Int = r.signed()
	case api.Decimal:
		v.Int = r.signed()
		v.Scale = r.next()
	case api.Time:
		// A number that is no int becomes one below 0: Check refuses it like all that are too great.
		v.Int = int(r.uvarint())
	case api.Text, api.Blob:
		v.Text = r.text()
	case api.List, api.Struct:
		return r.nest(v.Kind, deep)
	default:
		r.fail(api.ErrForm)
	}
	return v, value.Check(v)
}

// nest is the rest of a List or a Struct, and Check's error of it. A value that goes beyond MaxBytes is
// never answered, and for a great b it would take many times as much memory: Kids are kept up to there,
// and Check is asked of each part as it is read.
func (r *reader) nest(kind, deep int) (api.Value, api.Errno) {
	v := api.Value{Kind: kind}
	var refused api.Errno
	count := r.length()
	for range count {
		if kind == api.Struct {
			v.Names = append(v.Names, r.text())
		}
		kid, e := r.value(deep + 1)
		if r.err != api.OK {
			return api.Value{}, r.err
		}
		refused = cmp.Or(refused, e)
		if r.at <= api.MaxBytes {
			v.Kids = append(v.Kids, kid)
		}
	}
	return v, cmp.Or(checkShell(v, count), refused)
}

// checkShell is Check's error of v itself, with so many Kids, whatever they are: it stands ahead of theirs.
func checkShell(v api.Value, count int) api.Errno {
	v.Kids = slices.Repeat([]api.Value{{Kind: api.Null}}, count)
	return value.Check(v)
}
