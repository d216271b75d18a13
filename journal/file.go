package journal

import (
	"scrivener/api"
	"scrivener/frame"
	"scrivener/octet"
)

const (
	journalName = "journal"
	firstData   = "d00000000" // the name of the first block's data file
	onTheWay    = "~"         // ends the name of a file that is not yet what it will be
)

// dataName is the name of the data file of the block with an Index. No disk has room for so many blocks that one needs more digits.
func dataName(index int) string {
	name := []byte(firstData)
	for at := len(name) - 1; at > 0; at-- {
		name[at] = byte('0' + index%10)
		index /= 10
	}
	return string(name)
}

func shadowName(index int) string { return dataName(index) + onTheWay }

// indexOf is the Index of the block whose data file has a name; false, if no data file has it.
func indexOf(name string) (int, bool) {
	if len(name) != len(firstData) || name[0] != firstData[0] {
		return 0, false
	}
	index := 0
	for _, digit := range []byte(name[1:]) {
		if digit < '0' || digit > '9' {
			return 0, false
		}
		index = 10*index + int(digit-'0')
	}
	return index, true
}

// recordOf is a record of bytes that are known to be few enough: those of a block, or of the Data that one record held.
func recordOf(b []byte) []byte {
	record, _ := frame.Encode(b)
	return record
}

// fileOf is a data file's bytes.
func fileOf(data []part) []byte {
	var b []byte
	for _, p := range data {
		b = append(b, octet.Uvarint(uint64(p.place))...)
		b = append(b, octet.Uvarint(uint64(len(p.bytes)))...)
		b = append(b, p.bytes...)
	}
	return recordOf(b)
}

// partsOf is the parts that a data file's bytes hold; false, if they are no data file's.
func partsOf(file []byte) ([]part, bool) {
	records, _, e := frame.Scan(file)
	if e != api.OK || len(records) != 1 {
		return nil, false
	}
	var parts []part
	for left := records[0]; len(left) > 0; {
		place, n, e := octet.ReadUvarint(left)
		length, m, f := octet.ReadUvarint(left[n:])
		left = left[n+m:]
		if e != api.OK || f != api.OK || length > uint64(len(left)) {
			return nil, false
		}
		// No block has an entry beyond, and not every uint64 is an int.
		if place < api.MaxEnts {
			parts = append(parts, part{int(place), left[:length]})
		}
		left = left[length:]
	}
	return parts, true
}
