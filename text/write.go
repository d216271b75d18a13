package text

import (
	"strconv"
	"strings"

	"scrivener/api"
	"scrivener/decimal"
)

// writeValue writes what is a value.
func writeValue(b *strings.Builder, v api.Value) {
	switch v.Kind {
	case api.Null:
		b.WriteString(nullWord)
	case api.Bool:
		b.WriteString(truthWord(v.Int))
	case api.Int, api.Decimal:
		// A value of these kinds is a number, of which Text has no error.
		s, _ := decimal.Text(v)
		b.WriteString(s)
	case api.Time:
		b.WriteString(timeMark)
		b.WriteString(strconv.Itoa(v.Int))
	case api.Text:
		writeText(b, v.Text)
	case api.Blob:
		writeBlob(b, v.Text)
	case api.List:
		writeKids(b, v, listStart, listEnd)
	case api.Struct:
		writeKids(b, v, structStart, structEnd)
	}
}

func truthWord(n int) string {
	if n == 1 {
		return trueWord
	}
	return falseWord
}

// writeText writes a Text or a name.
func writeText(b *strings.Builder, s string) {
	b.WriteString(quote)
	for _, x := range []byte(s) {
		switch {
		case x == '\'':
			b.WriteString(twoQuotes)
		case x < ' ' || x > '~' || x == '\\':
			b.WriteByte('\\')
			writePair(b, x)
		default:
			b.WriteByte(x)
		}
	}
	b.WriteString(quote)
}

func writeBlob(b *strings.Builder, s string) {
	b.WriteString(blobMark)
	for _, x := range []byte(s) {
		writePair(b, x)
	}
}

// writePair writes the two digits of a byte.
func writePair(b *strings.Builder, x byte) {
	b.WriteByte(hexDigits[x>>4])
	b.WriteByte(hexDigits[x&0xf])
}

// writeKids writes each Kid of v, in a Struct behind its name.
func writeKids(b *strings.Builder, v api.Value, start, end string) {
	b.WriteString(start)
	for i, kid := range v.Kids {
		if i > 0 {
			b.WriteString(betweenKids)
		}
		if v.Kind == api.Struct {
			writeText(b, v.Names[i])
			b.WriteString(behindName)
		}
		writeValue(b, kid)
	}
	b.WriteString(end)
}
