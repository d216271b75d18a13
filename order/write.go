package order

import (
	"bytes"
	"strings"

	"scrivener/api"
	"scrivener/octet"
)

const maxDigits = 19 // of the greatest number

// appendValue puts behind b the key of what is a value.
func appendValue(b []byte, v api.Value) []byte {
	switch v.Kind {
	case api.Null:
		return append(b, nullClass)
	case api.Bool:
		return append(b, boolClass, byte(v.Int))
	case api.Int, api.Decimal:
		return appendNumber(append(b, numberClass), v)
	case api.Time:
		return append(append(b, timeClass), octet.Big(uint64(v.Int))...)
	case api.Text:
		return appendText(append(b, textClass), v.Text)
	case api.Blob:
		return appendText(append(b, blobClass), v.Text)
	case api.List:
		return appendKids(append(b, listClass), v)
	case api.Struct:
		return appendKids(append(b, structClass), v)
	}
	return b
}

// appendNumber puts behind b what a number's key has behind its class.
func appendNumber(b []byte, v api.Value) []byte {
	if v.Int == 0 {
		return append(b, noughtMark)
	}
	// Taken from nought as a uint64 even the least int has its size.
	size := uint64(v.Int)
	if v.Int < 0 {
		size = -size
	}
	from := len(b)
	b = appendAbove(b, size, v.Scale)
	if v.Int < 0 {
		turnRound(b[from:])
	}
	return b
}

// appendAbove is appendNumber for what is above nought.
func appendAbove(b []byte, size uint64, scale int) []byte {
	var room [maxDigits]byte
	at := len(room)
	for ; size > 0; size /= 10 {
		at--
		room[at] = firstDigit + byte(size%10)
	}
	digits := room[at:]
	power := len(digits) - scale
	b = append(b, byte(powerMark+power))
	b = append(b, bytes.TrimRight(digits, noughtDigit)...)
	return append(b, endMark)
}

// turnRound makes what is greater less.
func turnRound(b []byte) {
	for i := range b {
		b[i] = ^b[i]
	}
}

func appendText(b []byte, s string) []byte {
	return append(append(b, written(s)...), textEnd...)
}

// written is what stands for a text ahead of its end.
func written(s string) string { return strings.ReplaceAll(s, zero, zeroText) }

// appendKids puts behind b each Kid of v, in a Struct behind its name, and the end.
func appendKids(b []byte, v api.Value) []byte {
	for i, kid := range v.Kids {
		if v.Kind == api.Struct {
			b = appendText(append(b, fieldMark), v.Names[i])
		}
		b = appendValue(b, kid)
	}
	return append(b, endMark)
}
