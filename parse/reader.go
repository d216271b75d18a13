package parse

import (
	"slices"

	"scrivener/api"
)

// reader goes through the tokens of a text, of which the last one is never gone over.
type reader struct {
	left   []api.Token
	nest   int  // of what counts as within one another
	full   bool // the list that goes on here has all that it may have
	params int
}

// wrong is an error at the token that stands next.
func (r *reader) wrong(e api.Errno) fault { return fault{r.left[0].At, e} }

// take goes over a token that can stand where it stands. Whether it is too deep, or one too many, is asked only
// now, for a token that cannot stand there is neither.
func (r *reader) take() api.Token {
	if r.nest > api.MaxNest {
		panic(r.wrong(api.ErrDeep))
	}
	if r.full {
		panic(r.wrong(api.ErrLong))
	}
	t := r.left[0]
	r.left = r.left[1:]
	return t
}

func (r *reader) stands(kind int, texts ...string) bool {
	t := r.left[0]
	return t.Kind == kind && slices.Contains(texts, t.Text)
}

// skip goes over a token, if it stands next.
func (r *reader) skip(kind int, text string) bool {
	if !r.stands(kind, text) {
		return false
	}
	r.take()
	return true
}

func (r *reader) must(kind int, text string) {
	if !r.skip(kind, text) {
		panic(r.wrong(api.ErrSyntax))
	}
}

// kind goes over a token that has to be of this kind.
func (r *reader) kind(kind int) api.Token {
	if r.left[0].Kind != kind {
		panic(r.wrong(api.ErrSyntax))
	}
	return r.take()
}

func (r *reader) name() string { return r.kind(api.TokName).Text }

// inBrackets is a name that stands so.
func (r *reader) inBrackets() string {
	r.must(api.TokSign, "(")
	name := r.name()
	r.must(api.TokSign, ")")
	return name
}

// list goes over members with a comma between.
func (r *reader) list(member func()) {
	for n := 0; ; n++ {
		r.full = n == api.MaxFields
		member()
		if !r.skip(api.TokSign, ",") {
			return
		}
	}
}

// listTo goes over a list that may have no member, and over its end.
func (r *reader) listTo(end string, member func()) {
	if r.skip(api.TokSign, end) {
		return
	}
	r.list(member)
	r.must(api.TokSign, end)
}

// within goes over a row that counts as one more within another.
func (r *reader) within(row func() api.Expr) api.Expr {
	r.nest++
	e := row()
	r.nest--
	return e
}
