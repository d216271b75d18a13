package lex

// class is a class of bytes below 128. Each has a digit that tells whether it is in, the first half of them in the
// first number.
type class [2]uint64

const (
	half      = 64
	tenDigits = 1<<10 - 1
	alphabet  = 1<<26 - 1
)

func blanks() class {
	return class{1<<' ' | 1<<'\t' | 1<<'\n' | 1<<'\r', 0}
}

func digits() class {
	return class{tenDigits << '0', 0}
}

// letters are what a plain name or a word begins with.
func letters() class {
	return class{0, alphabet<<('A'-half) | alphabet<<('a'-half) | 1<<('_'-half)}
}

// signs are those of one byte.
func signs() class {
	return class{
		1<<'<' | 1<<'>' | 1<<'=' | 1<<'+' | 1<<'-' | 1<<'*' | 1<<'(' | 1<<')' | 1<<',' | 1<<'.' | 1<<':' | 1<<';',
		1<<('['-half) | 1<<(']'-half) | 1<<('{'-half) | 1<<('}'-half),
	}
}

// or is what is in one of two classes.
func (c class) or(d class) class {
	return class{c[0] | d[0], c[1] | d[1]}
}

func (c class) has(b byte) bool {
	return b < 2*half && c[b/half]>>(b%half)&1 == 1
}

// run is how many bytes of the class a text begins with.
func (c class) run(s string) int {
	n := 0
	for n < len(s) && c.has(s[n]) {
		n++
	}
	return n
}
