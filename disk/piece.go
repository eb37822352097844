package disk

import (
	"iter"
)

const sectorSize = 64

// piece is a string that is written at an offset.
type piece struct {
	off  int
	text string
}

// onto writes the piece to contents, and returns them; they may have become longer, even by an empty piece.
func (p piece) onto(contents []byte) []byte {
	if missing := p.off + len(p.text) - len(contents); missing > 0 {
		contents = append(contents, make([]byte, missing)...)
	}
	copy(contents[p.off:], p.text)
	return contents
}

// parts yields the pieces into which the borders of sectors cut the piece, none of them empty.
func (p piece) parts() iter.Seq[piece] {
	return func(yield func(piece) bool) {
		for rest := p; rest.text != ""; {
			size := min(sectorSize-rest.off%sectorSize, len(rest.text))
			if !yield(piece{rest.off, rest.text[:size]}) {
				return
			}
			rest = piece{rest.off + size, rest.text[size:]}
		}
	}
}
