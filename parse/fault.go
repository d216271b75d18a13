package parse

import "scrivener/api"

// fault is what the first error panics with.
type fault struct {
	at    int
	errno api.Errno
}

// firstFault is the one that work ended with: none, if it came to its end.
func firstFault(work func()) (f fault) {
	defer func() {
		if x := recover(); x != nil {
			// What is no fault panics on.
			f = x.(fault)
		}
	}()
	work()
	return fault{}
}
