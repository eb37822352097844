// Package codec turns numbers and lists of strings into bytes and back, and computes checksums.
package codec

import (
	"mainline/api"
)

// polynomial is the one of IEEE 802.3; its lowest bit stands for the highest power, as the register is shifted to the right.
const polynomial = 0xedb88320

const (
	groupBits = 7
	base      = 1 << groupBits // of the groups; a byte that is not less than base has another group behind it
	maxGroups = 10             // 64 bits, 7 in each group
	maxTenth  = 1              // the greatest group number maxGroups: only bit 63 is left for it
)

// Sum returns the CRC-32 of s according to IEEE 802.3.
func Sum(s string) uint32 {
	register := ^uint32(0)
	for i := range len(s) {
		register ^= uint32(s[i])
		for range 8 {
			// The mask is all ones exactly if the bit that is shifted out is 1: a branch on that bit could not be predicted.
			mask := -(register & 1)
			register = register>>1 ^ polynomial&mask
		}
	}
	return ^register
}

// groups yields the groups of n, the least significant one first, each with whether another one follows it.
func groups(n uint64) func(yield func(byte, bool) bool) {
	return func(yield func(byte, bool) bool) {
		rest := n
		for rest >= base {
			if !yield(byte(rest%base), true) {
				return
			}
			rest /= base
		}
		yield(byte(rest), false)
	}
}

// Number returns n in as many bytes as it has groups.
func Number(n uint64) string {
	return string(appendNumber(nil, n))
}

func appendNumber(b []byte, n uint64) []byte {
	for group, follows := range groups(n) {
		if follows {
			group += base
		}
		b = append(b, group)
	}
	return b
}

// ReadNumber returns the number with whose bytes s begins, and how many bytes these are.
func ReadNumber(s string) (uint64, int, api.Errno) {
	var n uint64
	for i := range min(len(s), maxGroups) {
		if s[i] >= base {
			n |= uint64(s[i]-base) << (groupBits * i)
			continue
		}
		if !canBeLast(s[i], i) {
			return 0, 0, api.ErrForm
		}
		return n | uint64(s[i])<<(groupBits*i), i + 1, api.OK
	}
	if len(s) < maxGroups {
		return 0, 0, api.ErrShort
	}
	return 0, 0, api.ErrForm
}

// canBeLast tells whether a number can end with this group, with so many others before it: a number that ends with 0 has fewer groups, and a number has at most 64 bits.
func canBeLast(group byte, before int) bool {
	if before == 0 {
		return true
	}
	return group != 0 && (before < maxGroups-1 || group <= maxTenth)
}

// Signed maps the integers 0, -1, 1, -2, 2 and so on to 0, 1, 2, 3, 4 and so on, so that integers near 0 have few groups.
func Signed(n int) uint64 {
	if n >= 0 {
		return 2 * uint64(n)
	}
	return 2*uint64(-(n+1)) + 1 // -n would overflow for the least integer
}

// Unsigned undoes Signed.
func Unsigned(n uint64) int {
	half := int(n / 2)
	if n%2 == 0 {
		return half
	}
	return -half - 1 // n + 1 would overflow for the greatest number
}

// Pack returns the strings of l as one, from which Unpack gets them back.
func Pack(l []string) string {
	b := appendNumber(nil, uint64(len(l)))
	for _, s := range l {
		b = appendNumber(b, uint64(len(s)))
		b = append(b, s...)
	}
	return string(b)
}

// Unpack returns the list of which s is the Pack.
func Unpack(s string) ([]string, api.Errno) {
	u := unpacker{reader: reader{rest: s}}
	if e := u.readList(); e != api.OK {
		return nil, e
	}
	if u.rest != "" {
		return nil, api.ErrForm
	}
	return u.list, api.OK
}

// reader takes numbers and texts from the beginning of rest.
type reader struct{ rest string }

func (r *reader) readNumber() (uint64, api.Errno) {
	n, size, e := ReadNumber(r.rest)
	r.rest = r.rest[size:]
	return n, e
}

// readText takes a length and the bytes of a text of that length.
func (r *reader) readText() (string, api.Errno) {
	size, e := r.readNumber()
	if e != api.OK {
		return "", e
	}
	if size > uint64(len(r.rest)) {
		return "", api.ErrShort
	}
	s := r.rest[:size]
	r.rest = r.rest[size:]
	return s, api.OK
}

// unpacker is a reader that collects the strings of a list.
type unpacker struct {
	reader
	list []string
}

// readList takes the number of strings, and the strings. The list grows as strings are found, because the number may be anything.
func (u *unpacker) readList() api.Errno {
	left, e := u.readNumber()
	for e == api.OK && left > 0 {
		var s string
		if s, e = u.readText(); e == api.OK {
			u.list = append(u.list, s)
			left--
		}
	}
	return e
}
