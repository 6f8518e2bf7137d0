package journal

import (
	"strings"

	"dialtone/api"
	"dialtone/digest"
	"dialtone/wire"
)

// mark is the byte with which a stored record begins.
const mark = "\x01"

// list is records, with their head and their end.
type list struct {
	records []string
	head    string
	end     int
}

// noRecords returns the list of no records.
func noRecords() list {
	return list{head: strings.Repeat("\x00", api.DigestSize)}
}

// add adds a record to the list, and returns it as it is stored.
func (l *list) add(record string) string {
	text, _ := wire.PutString(record)
	l.records = append(l.records, record)
	l.head = digest.Chain(l.head, record)
	stored := mark + text + l.head
	l.end += len(stored)
	return stored
}

// with returns the list after a group of records has been added to it, and the group as it is
// stored.
func (l list) with(group []string) (list, string) {
	var stored strings.Builder
	for _, record := range group {
		// The list keeps a string of its own: the given one may be a part of a long one.
		stored.WriteString(l.add(strings.Clone(record)))
	}
	return l, stored.String()
}

// storedSize returns the number of bytes of a group as it is stored. (It is known before the
// group is put together, which can be much longer than any disk.)
func storedSize(group []string) int {
	n := 0
	for _, record := range group {
		length, _ := wire.PutInt(len(record))
		n += len(mark) + len(length) + len(record) + api.DigestSize
	}
	return n
}

func isTooLong(record string) bool {
	return len(record) > api.MaxString
}
