package codec

import (
	"scrivener/api"
	"scrivener/octet"
)

// appendValue puts behind b the bytes of what is a value. Once there are too many they are
// never answered: it goes no further.
func appendValue(b []byte, v api.Value) []byte {
	if len(b) > api.MaxBytes {
		return b
	}
	b = append(b, byte(v.Kind))
	switch v.Kind {
	case api.Bool:
		return append(b, byte(v.Int))
	case api.Int:
		return appendInt(b, v.Int)
	case api.Decimal:
		return append(appendInt(b, v.Int), byte(v.Scale))
	case api.Time:
		return appendUvarint(b, uint64(v.Int))
	case api.Text, api.Blob:
		return appendText(b, v.Text)
	case api.List, api.Struct:
		return appendKids(b, v)
	}
	return b
}

func appendUvarint(b []byte, u uint64) []byte { return append(b, octet.Uvarint(u)...) }

func appendInt(b []byte, n int) []byte { return appendUvarint(b, octet.Zig(int64(n))) }

func appendText(b []byte, s string) []byte {
	return append(appendUvarint(b, uint64(len(s))), s...)
}

// appendKids puts behind b how many Kids v has, and each, in a Struct behind its name.
func appendKids(b []byte, v api.Value) []byte {
	b = appendUvarint(b, uint64(len(v.Kids)))
	for i, kid := range v.Kids {
		if v.Kind == api.Struct {
			b = appendText(b, v.Names[i])
		}
		b = appendValue(b, kid)
	}
	return b
}
