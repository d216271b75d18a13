package disk

// file is bytes, of which the first so many last. A disk's room is far below 2^32, so each length fits.
type file struct {
	bytes []byte
	lasts uint32
}

// told is the length, and below it how much of it lasts.
func (f *file) told() uint64 {
	return uint64(len(f.bytes))<<32 | uint64(f.lasts)
}

func (f *file) sync() { f.lasts = uint32(len(f.bytes)) }

// cut takes away from what lasts too, for bytes that come later stand there without lasting.
func (f *file) cut(n int) {
	f.bytes = f.bytes[:n]
	f.lasts = min(f.lasts, uint32(n))
}

// spared is how many bytes a crash leaves.
func (f *file) spared(draw int) int {
	told := f.told()
	length, lasts := int(told>>32), int(uint32(told))
	return lasts + draw%(length-lasts+1)
}
