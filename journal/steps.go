package journal

import (
	"cmp"

	"scrivener/api"
	"scrivener/disk"
)

// steps are done on a disk, one behind the other. The first error stays: behind it nothing more is done.
type steps struct {
	disk    *disk.Disk
	written []string // the files that were made
	err     api.Errno
}

func (s *steps) do(step func() api.Errno) {
	if s.err == api.OK {
		s.err = step()
	}
}

func (s *steps) extend(name string, b []byte) {
	s.do(func() api.Errno { return s.disk.Append(name, b) })
}

func (s *steps) sync(name string) {
	s.do(func() api.Errno { return s.disk.Sync(name) })
}

func (s *steps) truncate(name string, n int) {
	s.do(func() api.Errno { return s.disk.Truncate(name, n) })
}

func (s *steps) rename(old, name string) {
	s.do(func() api.Errno { return s.disk.Rename(old, name) })
}

func (s *steps) remove(name string) {
	s.do(func() api.Errno { return s.disk.Remove(name) })
}

// clear removes a file, if it is there.
func (s *steps) clear(name string) {
	s.do(func() api.Errno {
		e := s.disk.Remove(name)
		if e == api.ErrNone {
			return api.OK
		}
		return e
	})
}

// write makes a file anew; it lasts.
func (s *steps) write(name string, b []byte) {
	s.clear(name)
	s.extend(name, b)
	if s.err == api.OK {
		s.written = append(s.written, name)
	}
	s.sync(name)
}

// shadow lays what stays of a block's data beside its data file, if anything stays.
func (s *steps) shadow(r rest) {
	if len(r.data) > 0 {
		s.write(shadowName(r.index), fileOf(r.data))
	}
}

// replace puts the shadow in the data file's stead; without one, nothing.
func (s *steps) replace(r rest) {
	if len(r.data) > 0 {
		s.rename(shadowName(r.index), dataName(r.index))
	} else {
		s.remove(dataName(r.index))
	}
}

// undo takes away what was written on a disk that is full. An error on that way is told in ErrFull's stead.
func (s *steps) undo() api.Errno {
	s.err = api.OK
	for _, name := range s.written {
		s.remove(name)
	}
	return cmp.Or(s.err, api.ErrFull)
}
