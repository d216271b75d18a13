package disk

import (
	"bytes"
	"maps"
	"slices"
	"strings"
	"sync"

	"scrivener/api"
)

const noFuse = -1

// store is what a Disk keeps. used is counted along, for each Append asks for it; a fuse of 0 is burnt.
type store struct {
	lock  sync.Mutex
	room  int
	used  int
	fuse  int
	files map[string]*file
}

func empty(room int) *store {
	return &store{room: room, fuse: noFuse, files: map[string]*file{}}
}

func (s *store) extend(name string, b []byte) api.Errno {
	f := s.files[name]
	if len(b) > s.room-s.used || f == nil && len(s.files) >= api.MaxFiles {
		return api.ErrFull
	}
	if f == nil {
		f = &file{}
		s.put(name, f)
	}
	f.bytes = append(f.bytes, b...)
	s.used += len(b)
	return api.OK
}

// put keeps a name of its own: the one that was handed in may be a piece of a great text.
func (s *store) put(name string, f *file) {
	s.files[strings.Clone(name)] = f
}

func (s *store) sync(name string) api.Errno {
	f := s.files[name]
	if f == nil {
		return api.ErrNone
	}
	f.sync()
	return api.OK
}

func (s *store) truncate(name string, n int) api.Errno {
	f := s.files[name]
	switch {
	case f == nil:
		return api.ErrNone
	case n < 0 || n > len(f.bytes):
		return api.ErrArg
	}
	s.cut(f, n)
	return api.OK
}

func (s *store) rename(old, name string) api.Errno {
	f := s.files[old]
	switch {
	case f == nil:
		return api.ErrNone
	case old == name:
		return api.OK
	}
	s.drop(name)
	delete(s.files, old)
	s.put(name, f)
	return api.OK
}

func (s *store) remove(name string) api.Errno {
	if s.files[name] == nil {
		return api.ErrNone
	}
	s.drop(name)
	return api.OK
}

// crash may go through the files in any order: what stays of one does not hang on another.
func (s *store) crash(draw int) {
	for _, f := range s.files {
		s.cut(f, f.spared(draw))
		f.sync()
	}
	s.fuse = noFuse
}

func (s *store) names() []string {
	return slices.Sorted(maps.Keys(s.files))
}

func (s *store) copied() *store {
	c := empty(s.room)
	c.used = s.used
	for name, f := range s.files {
		c.files[name] = &file{bytes.Clone(f.bytes), f.lasts}
	}
	return c
}

func (s *store) drop(name string) {
	if f := s.files[name]; f != nil {
		s.used -= len(f.bytes)
		delete(s.files, name)
	}
}

func (s *store) cut(f *file, n int) {
	s.used -= len(f.bytes) - n
	f.cut(n)
}

func (s *store) burn(e api.Errno) {
	if e == api.OK && s.fuse > 0 {
		s.fuse--
	}
}
