package journal

import (
	"iter"
	"strings"

	"mainline/api"
	"mainline/codec"
)

const (
	mark    = "\x01" // the first byte of a frame, in front of its body
	blank   = "\x00" // what is at the end instead of a mark
	sumSize = 4
)

// body returns the body of the frame of a record.
func body(record string) string {
	summed := codec.Number(uint64(len(record))) + record
	n := codec.Sum(summed)
	return summed + string([]byte{byte(n), byte(n >> 8), byte(n >> 16), byte(n >> 24)})
}

// bodySize returns the length of the body of a record, also of one that is too long to make its body.
func bodySize(record string) int {
	return len(codec.Number(uint64(len(record)))) + len(record) + sumSize
}

// frames yields the records of the frames that follow each other from the start of contents on, each with the offset behind its frame.
func frames(contents string) iter.Seq2[string, int] {
	return func(yield func(string, int) bool) {
		for behind := 0; strings.HasPrefix(contents[behind:], mark); {
			record, ok := readBody(contents[behind+len(mark):])
			if !ok {
				return
			}
			behind += len(mark) + bodySize(record)
			if !yield(record, behind) {
				return
			}
		}
	}
}

// readBody returns the record with whose body s begins, if it begins with one.
func readBody(s string) (string, bool) {
	n, size, e := codec.ReadNumber(s)
	if e != api.OK || n > uint64(len(s)-size) {
		return "", false
	}
	record := s[size : size+int(n)]
	if !strings.HasPrefix(s, body(record)) {
		return "", false
	}
	return record, true
}
