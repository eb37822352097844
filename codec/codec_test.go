package codec

import (
	"hash/crc32"
	"math"
	"slices"
	"strings"
	"testing"

	"mainline/api"
	"mainline/samples"
)

const greatest = uint64(math.MaxUint64)

// boundaryNumbers are the numbers next to which the number of groups or the sign changes, and a few others.
func boundaryNumbers() []uint64 {
	l := []uint64{0, 1, 2, 3, 5, 44, 300, 1<<32 - 1, 1 << 32, 1<<63 - 2, 1<<63 - 1, 1 << 63, 1<<63 + 1, greatest - 1, greatest}
	for bits := 7; bits < 64; bits += 7 {
		l = append(l, 1<<bits-1, 1<<bits, 1<<bits+1)
	}
	return l
}

// listsOver returns all lists of at most most of the texts.
func listsOver(texts []string, most int) [][]string {
	all := [][]string{nil}
	longest := all
	for range most {
		var longer [][]string
		for _, l := range longest {
			for _, s := range texts {
				longer = append(longer, append(slices.Clone(l), s))
			}
		}
		all = append(all, longer...)
		longest = longer
	}
	return all
}

func TestP1_1SumOfKnownStrings(t *testing.T) {
	for s, want := range map[string]uint32{
		"":                         0,
		"a":                        0xe8b7be43,
		"abc":                      0x352441c2,
		"123456789":                0xcbf43926,
		"\x00":                     0xd202ef8d,
		"\x00\x00\x00\x00":         0x2144df1c,
		"\xff":                     0xff000000,
		"\xff\xff\xff\xff":         0xffffffff,
		strings.Repeat("\x00", 32): 0x190a55ad,
		strings.Repeat("\xff", 32): 0xff6cab0b,
		"The quick brown fox jumps over the lazy dog": 0x414fa339,
	} {
		if got := Sum(s); got != want {
			t.Errorf("Sum(%q) = %08x, want %08x", s, got, want)
		}
	}
}

func TestP1_1SumAgreesWithTheLibrary(t *testing.T) {
	check := func(b []byte) {
		if got, want := Sum(string(b)), crc32.ChecksumIEEE(b); got != want {
			t.Fatalf("Sum(% x) = %08x, want %08x", b, got, want)
		}
	}
	for i := range 1 << 16 {
		check([]byte{byte(i), byte(i >> 8)})
	}
	var long []byte
	for i := range 1000 {
		long = append(long, byte(i*i>>3))
		check(long)
	}
}

func TestP1_2Number(t *testing.T) {
	for _, c := range []struct {
		n    uint64
		want string
	}{
		{0, "\x00"},
		{1, "\x01"},
		{127, "\x7f"},
		{128, "\x80\x01"},
		{255, "\xff\x01"},
		{256, "\x80\x02"},
		{300, "\xac\x02"},
		{16383, "\xff\x7f"},
		{16384, "\x80\x80\x01"},
		{1 << 62, "\x80\x80\x80\x80\x80\x80\x80\x80\x40"},
		{1<<63 - 1, "\xff\xff\xff\xff\xff\xff\xff\xff\x7f"},
		{1 << 63, "\x80\x80\x80\x80\x80\x80\x80\x80\x80\x01"},
		{greatest, "\xff\xff\xff\xff\xff\xff\xff\xff\xff\x01"},
	} {
		if got := Number(c.n); got != c.want {
			t.Errorf("Number(%d) = % x, want % x", c.n, got, c.want)
		}
	}
}

func TestP1_2NumberHasTheLeastGroups(t *testing.T) {
	for _, n := range boundaryNumbers() {
		s := Number(n)
		var sum uint64
		for i := range len(s) {
			if follows := i < len(s)-1; s[i] >= 128 != follows {
				t.Errorf("Number(%d) = % x: byte %d", n, s, i)
			}
			sum += uint64(s[i]%128) << (7 * i)
		}
		if sum != n {
			t.Errorf("Number(%d) = % x, the groups of %d", n, s, sum)
		}
		if len(s) > 1 && s[len(s)-1] == 0 {
			t.Errorf("Number(%d) = % x has a group too many", n, s)
		}
	}
}

func TestP1_2GroupsCanBeLeftEarlyAndReadTwice(t *testing.T) {
	all := groups(1 << 14)
	for range 2 {
		var got []byte
		for group, follows := range all {
			got = append(got, group)
			if len(got) == 2 {
				break
			}
			if !follows {
				t.Error("no group follows the first one")
			}
		}
		if !slices.Equal(got, []byte{0, 0}) {
			t.Errorf("groups %v", got)
		}
	}
}

func TestP1_3ReadNumberUndoesNumber(t *testing.T) {
	for _, n := range boundaryNumbers() {
		s := Number(n)
		for _, behind := range []string{"", "\x00", "\x01", "\x7f", "\x80", "\xff\xff", strings.Repeat("\xff", 20)} {
			if got, size, e := ReadNumber(s + behind); got != n || size != len(s) || e != api.OK {
				t.Errorf("ReadNumber(% x) = %d, %d, %d, want %d, %d", s+behind, got, size, e, n, len(s))
			}
		}
		for size := range len(s) {
			if got, length, e := ReadNumber(s[:size]); got != 0 || length != 0 || e != api.ErrShort {
				t.Errorf("ReadNumber(% x) = %d, %d, %d, want ErrShort", s[:size], got, length, e)
			}
		}
	}
}

func TestP1_3ReadNumberOfNoNumber(t *testing.T) {
	for _, c := range []struct {
		s    string
		want api.Errno
	}{
		{"", api.ErrShort},
		{"\x80", api.ErrShort},
		{"\xac", api.ErrShort},
		{strings.Repeat("\x80", 9), api.ErrShort},
		{strings.Repeat("\xff", 9), api.ErrShort},
		{strings.Repeat("\x80", 10), api.ErrForm},
		{strings.Repeat("\xff", 10), api.ErrForm},
		{strings.Repeat("\x80", 10) + "\x01", api.ErrForm},
		{strings.Repeat("\xff", 11), api.ErrForm},
		{"\x80\x00", api.ErrForm},
		{"\xac\x00", api.ErrForm},
		{"\xff\x00\x01", api.ErrForm},
		{"\xac\x82\x00", api.ErrForm},
		{strings.Repeat("\x80", 8) + "\x00", api.ErrForm},
		{strings.Repeat("\xff", 9) + "\x00", api.ErrForm},
		{strings.Repeat("\x80", 9) + "\x02", api.ErrForm},
		{strings.Repeat("\xff", 9) + "\x02", api.ErrForm},
		{strings.Repeat("\xff", 9) + "\x03", api.ErrForm},
		{strings.Repeat("\xff", 9) + "\x7f", api.ErrForm},
	} {
		if n, size, e := ReadNumber(c.s); n != 0 || size != 0 || e != c.want {
			t.Errorf("ReadNumber(% x) = %d, %d, %d, want 0, 0, %d", c.s, n, size, e, c.want)
		}
	}
}

// checkReadNumber compares ReadNumber with the contract, by trying all beginnings of s.
func checkReadNumber(t *testing.T, s string) {
	n, size, e := ReadNumber(s)
	begins := false
	for end := 1; end <= min(len(s), 10); end++ {
		var sum uint64
		for i := range end {
			sum += uint64(s[i]%128) << (7 * i)
		}
		if Number(sum) == s[:end] {
			begins = true
			if n != sum || size != end || e != api.OK {
				t.Errorf("ReadNumber(% x) = %d, %d, %d, want %d, %d", s, n, size, e, sum, end)
			}
		}
	}
	if begins {
		return
	}
	want := api.ErrForm
	if len(s) < 10 && strings.IndexFunc(asRunes(s), func(r rune) bool { return r < 128 }) < 0 {
		want = api.ErrShort
	}
	if n != 0 || size != 0 || e != want {
		t.Errorf("ReadNumber(% x) = %d, %d, %d, want 0, 0, %d", s, n, size, e, want)
	}
}

// asRunes returns one rune for each byte of s.
func asRunes(s string) string {
	var b strings.Builder
	for i := range len(s) {
		b.WriteRune(rune(s[i]))
	}
	return b.String()
}

func TestP1_3ReadNumberOfAllShortStrings(t *testing.T) {
	for _, s := range samples.Strings("\x00\x01\x02\x7f\x80\xff", 5) {
		checkReadNumber(t, s)
		for _, fill := range []string{"\x80", "\x81", "\xff"} {
			for length := 6; length <= 9; length++ {
				checkReadNumber(t, strings.Repeat(fill, length)+s)
			}
		}
	}
}

func TestP1_4SignedAndUnsigned(t *testing.T) {
	for _, c := range []struct {
		n    int
		want uint64
	}{
		{0, 0},
		{-1, 1},
		{1, 2},
		{-2, 3},
		{2, 4},
		{-3, 5},
		{1 << 31, 1 << 32},
		{-1 << 31, 1<<32 - 1},
		{math.MaxInt - 1, greatest - 3},
		{math.MinInt + 1, greatest - 2},
		{math.MaxInt, greatest - 1},
		{math.MinInt, greatest},
	} {
		if got := Signed(c.n); got != c.want {
			t.Errorf("Signed(%d) = %d, want %d", c.n, got, c.want)
		}
		if got := Unsigned(c.want); got != c.n {
			t.Errorf("Unsigned(%d) = %d, want %d", c.want, got, c.n)
		}
	}
}

func TestP1_5Pack(t *testing.T) {
	for _, c := range []struct {
		l    []string
		want string
	}{
		{nil, "\x00"},
		{[]string{}, "\x00"},
		{[]string{""}, "\x01\x00"},
		{[]string{"", ""}, "\x02\x00\x00"},
		{[]string{"ab", ""}, "\x02\x02ab\x00"},
		{[]string{"", "ab"}, "\x02\x00\x02ab"},
		{[]string{"\x00\xff\x80"}, "\x01\x03\x00\xff\x80"},
		{[]string{strings.Repeat("x", 127)}, "\x01\x7f" + strings.Repeat("x", 127)},
		{[]string{strings.Repeat("x", 128)}, "\x01\x80\x01" + strings.Repeat("x", 128)},
		{[]string{strings.Repeat("x", 300), "y"}, "\x02\xac\x02" + strings.Repeat("x", 300) + "\x01y"},
		{make([]string, 127), "\x7f" + strings.Repeat("\x00", 127)},
		{make([]string, 300), "\xac\x02" + strings.Repeat("\x00", 300)},
	} {
		before := slices.Clone(c.l)
		if got := Pack(c.l); got != c.want {
			t.Errorf("Pack(%q) = % x, want % x", c.l, got, c.want)
		}
		if !slices.Equal(c.l, before) {
			t.Errorf("Pack changed %q to %q", before, c.l)
		}
	}
}

func TestP1_6UnpackOfPacks(t *testing.T) {
	for s, want := range map[string][]string{
		"\x00":             nil,
		"\x01\x00":         {""},
		"\x02\x02ab\x00":   {"ab", ""},
		"\x01\x02\x80\x00": {"\x80\x00"},
		"\x01\x80\x01" + strings.Repeat("x", 128): {strings.Repeat("x", 128)},
		"\x80\x01" + strings.Repeat("\x00", 128):  make([]string, 128),
	} {
		if got, e := Unpack(s); !slices.Equal(got, want) || e != api.OK {
			t.Errorf("Unpack(% x) = %q, %d, want %q", s, got, e, want)
		}
	}
}

func TestP1_6UnpackOfOtherStrings(t *testing.T) {
	huge := Number(greatest)
	for _, c := range []struct {
		s    string
		want api.Errno
	}{
		// The number of strings is wrong.
		{"", api.ErrShort},
		{"\x80", api.ErrShort},
		{"\x80\x00", api.ErrForm},
		{"\x81\x00\x01a", api.ErrForm},
		{strings.Repeat("\xff", 10), api.ErrForm},
		// A length is missing or wrong.
		{"\x01", api.ErrShort},
		{"\x02\x00", api.ErrShort},
		{"\x02\x01a", api.ErrShort},
		{"\x01\x81", api.ErrShort},
		{"\x01\x80\x00", api.ErrForm},
		{"\x02\x00\x81\x00a", api.ErrForm},
		{"\x01" + strings.Repeat("\xff", 9), api.ErrShort},
		{"\x01" + strings.Repeat("\xff", 10), api.ErrForm},
		// Bytes of a string are missing.
		{"\x01\x01", api.ErrShort},
		{"\x01\x03a", api.ErrShort},
		{"\x01\x03ab", api.ErrShort},
		{"\x02\x01a\x02b", api.ErrShort},
		{"\x01" + Number(1<<63) + "a", api.ErrShort},
		{"\x01" + huge + "a", api.ErrShort},
		{huge, api.ErrShort},
		{huge + "\x00\x00", api.ErrShort},
		// Bytes are left behind the last string.
		{"\x00a", api.ErrForm},
		{"\x00\x00", api.ErrForm},
		{"\x00\x80", api.ErrForm},
		{"\x01\x01ab", api.ErrForm},
		{"\x02\x02ab\x00\x00", api.ErrForm},
		// The first one of several errors counts.
		{"\x02\x80\x00\x09", api.ErrForm},
		{"\x02\x05\x80\x00", api.ErrShort},
		{"\x02\x01a\x09\x80\x00", api.ErrShort},
		{huge + "\x00\x80\x00", api.ErrForm},
	} {
		if l, e := Unpack(c.s); l != nil || e != c.want {
			t.Errorf("Unpack(% x) = %q, %d, want none, %d", c.s, l, e, c.want)
		}
	}
}

// firstError reads s as the contract of Unpack says, and returns the first error.
func firstError(s string) api.Errno {
	left, at, e := ReadNumber(s)
	for ; e == api.OK && left > 0; left-- {
		length, size, e := ReadNumber(s[at:])
		if e != api.OK {
			return e
		}
		at += size
		if length > uint64(len(s)-at) {
			return api.ErrShort
		}
		at += int(length)
	}
	if e == api.OK && at < len(s) {
		return api.ErrForm
	}
	return e
}

func TestP1_6UnpackOfAllShortStrings(t *testing.T) {
	for _, s := range samples.Strings("\x00\x01\x02\x03\x80\xff", 6) {
		l, e := Unpack(s)
		if want := firstError(s); e != want {
			t.Errorf("Unpack(% x): %d, want %d", s, e, want)
		}
		if e == api.OK && Pack(l) != s {
			t.Errorf("Unpack(% x) = %q, whose Pack is % x", s, l, Pack(l))
		}
		if e != api.OK && l != nil {
			t.Errorf("Unpack(% x) = %q with error %d", s, l, e)
		}
	}
}

func TestP1_7UnsignedUndoesSigned(t *testing.T) {
	check := func(n uint64) {
		if got := Signed(Unsigned(n)); got != n {
			t.Errorf("Signed(Unsigned(%d)) = %d", n, got)
		}
		if got := Unsigned(Signed(int(n))); got != int(n) {
			t.Errorf("Unsigned(Signed(%d)) = %d", int(n), got)
		}
	}
	for n := range uint64(1000) {
		check(n)
		check(-n)
	}
	for _, n := range boundaryNumbers() {
		check(n)
	}
}

func TestP1_7UnpackUndoesPack(t *testing.T) {
	texts := []string{"", "a", "\x00", "\x80", "\x01a", strings.Repeat("long ", 100)}
	for _, l := range append(listsOver(texts, 4), make([]string, 70000)) {
		got, e := Unpack(Pack(l))
		if e != api.OK || !slices.Equal(got, l) {
			t.Fatalf("Unpack(Pack(%q)) = %q, %d", l, got, e)
		}
	}
}

func TestP1_7NoPackBeginsAnother(t *testing.T) {
	var packs []string
	for _, l := range listsOver([]string{"", "a", "\x00", "\x00\x00", "\x01a", "\x80"}, 4) {
		packs = append(packs, Pack(l))
	}
	// Sorted, a string that begins another one also begins the one next to it.
	slices.Sort(packs)
	for i := range len(packs) - 1 {
		if strings.HasPrefix(packs[i+1], packs[i]) {
			t.Errorf("% x begins % x", packs[i], packs[i+1])
		}
	}
}

func TestP1_7SumTellsFourBytesApart(t *testing.T) {
	for _, frame := range [][2]string{{"", ""}, {"ab", ""}, {"", "\x00\xff"}, {"0123456789", "9876543210"}} {
		seen := map[uint32]uint32{}
		check := func(window uint32) {
			s := frame[0] + string([]byte{byte(window), byte(window >> 8), byte(window >> 16), byte(window >> 24)}) + frame[1]
			sum := Sum(s)
			if other, ok := seen[sum]; ok && other != window {
				t.Fatalf("the windows %08x and %08x in %q have the same checksum %08x", other, window, frame, sum)
			}
			seen[sum] = window
		}
		window := uint32(1)
		for i := range uint32(1 << 16) {
			check(i)
			check(i << 16)
			check(window)
			window = window*1664525 + 1013904223 // visits all numbers before it repeats
		}
	}
}

func TestP1CallsEndForAllArguments(t *testing.T) {
	for _, s := range samples.Strings("\x00\x01\x7f\x80\xff", 6) {
		for _, fill := range []string{"", strings.Repeat("\xff", 9), Number(greatest), "\x01" + Number(greatest), "\x02" + Number(1<<63)} {
			Sum(fill + s)
			if n, size, e := ReadNumber(fill + s); e != api.OK && (n != 0 || size != 0) {
				t.Errorf("ReadNumber(% x) = %d, %d with error %d", fill+s, n, size, e)
			}
			if l, e := Unpack(fill + s); e != api.OK && l != nil {
				t.Errorf("Unpack(% x) = %q with error %d", fill+s, l, e)
			}
		}
	}
}
