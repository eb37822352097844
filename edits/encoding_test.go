package edits

import (
	"math"
	"slices"
	"strings"
	"testing"

	"mainline/api"
	"mainline/codec"
	"mainline/samples"
)

// kindsAtTheLimits are kinds of edits that exist and others, with encodings of all lengths.
var kindsAtTheLimits = []int{0, 1, 2, 3, 4, -1, -2, -3, 63, 64, -64, -65, 127, 128, 8191, 8192, -8192, -8193, 1 << 32, -1 << 32, math.MaxInt, math.MinInt, math.MaxInt - 1, math.MinInt + 1}

func TestP6_4EncodeKnownLists(t *testing.T) {
	for _, none := range [][]api.Edit{nil, {}} {
		if s := Encode(none); s != "\x00" {
			t.Errorf("no edits: %q", s)
		}
	}
	for _, c := range []struct {
		edits []api.Edit
		want  string
	}{
		{list(written("a", "xy")), "\x01" + "\x09" + "\x04" + "\x01\x02" + "\x01a" + "\x00" + "\x02xy"},
		{list(deleted("a/b")), "\x01" + "\x09" + "\x04" + "\x01\x04" + "\x03a/b" + "\x00" + "\x00"},
		{list(moved("a", "bc")), "\x01" + "\x09" + "\x04" + "\x01\x06" + "\x01a" + "\x02bc" + "\x00"},
		{list(api.Edit{}), "\x01" + "\x06" + "\x04" + "\x01\x00" + "\x00" + "\x00" + "\x00"},
		{list(api.Edit{Kind: -1, Path: "\xff", To: "/", Text: "\x00"}), "\x01" + "\x09" + "\x04" + "\x01\x01" + "\x01\xff" + "\x01/" + "\x01\x00"},
		{list(api.Edit{Kind: 64}), "\x01" + "\x07" + "\x04" + "\x02\x80\x01" + "\x00" + "\x00" + "\x00"},
		{list(api.Edit{Kind: math.MinInt}), "\x01" + "\x0f" + "\x04" + "\x0a\xff\xff\xff\xff\xff\xff\xff\xff\xff\x01" + "\x00" + "\x00" + "\x00"},
		{list(written("a", "x"), deleted("a")), "\x02" + "\x08" + "\x04" + "\x01\x02" + "\x01a" + "\x00" + "\x01x" + "\x07" + "\x04" + "\x01\x04" + "\x01a" + "\x00" + "\x00"},
	} {
		if s := Encode(c.edits); s != c.want {
			t.Errorf("Encode(%v): %q; want %q", c.edits, s, c.want)
		}
		if l, e := Decode(c.want); e != api.OK || !slices.Equal(l, c.edits) {
			t.Errorf("Decode(%q): %v, error %d; want %v", c.want, l, e, c.edits)
		}
	}
}

func TestP6_4EncodeFollowsTheWords(t *testing.T) {
	word := samples.Words(1, "ab/\x00\xff")
	for n := range 2000 {
		var l []api.Edit
		for i := range n % 5 {
			l = append(l, api.Edit{Kind: kindsAtTheLimits[(n+i)%len(kindsAtTheLimits)], Path: word(5), To: word(5), Text: word(300)})
		}
		kept := slices.Clone(l)
		if s := Encode(l); s != encodeByWords(l) {
			t.Fatalf("Encode(%s): %s; want %s", brief(l), brief(s), brief(encodeByWords(l)))
		}
		if !slices.Equal(l, kept) {
			t.Fatalf("Encode changes its argument: %s", brief(l))
		}
	}
}

func TestP6_6DecodeUndoesEncode(t *testing.T) {
	for seed := range uint32(2000) {
		l := randomEdits(seed)(6)
		for i := range l {
			l[i].Kind = kindsAtTheLimits[(int(seed)+i)%len(kindsAtTheLimits)]
		}
		if decoded, e := Decode(Encode(l)); e != api.OK || !slices.Equal(decoded, l) {
			t.Fatalf("Decode of Encode(%s): %s, error %d", brief(l), brief(decoded), e)
		}
	}
	long := make([]api.Edit, 300)
	for i := range long {
		long[i] = written(strings.Repeat("p", i), strings.Repeat("t", 65300+i))
	}
	if decoded, e := Decode(Encode(long)); e != api.OK || !slices.Equal(decoded, long) {
		t.Errorf("%d of %d long edits, error %d", len(decoded), len(long), e)
	}
}

// isRefused checks that Decode returns this error.
func isRefused(t *testing.T, s string, want api.Errno) {
	t.Helper()
	if l, e := Decode(s); len(l) != 0 || e != want {
		t.Errorf("Decode(%s): %s, error %d; want error %d", brief(s), brief(l), e, want)
	}
}

func TestP6_5ErrorsOfTheWhole(t *testing.T) {
	isRefused(t, "", 20)
	isRefused(t, "\x80", 20)
	isRefused(t, "\x01", 20)
	isRefused(t, "\x02\x01", 20)
	isRefused(t, "\x80\x00", 22)
	isRefused(t, "\x81\x00", 22)
	isRefused(t, "\x00\x00", 22)
	isRefused(t, "\xff\xff\xff\xff\xff\xff\xff\xff\xff\x01", 20)
	isRefused(t, "\xff\xff\xff\xff\xff\xff\xff\xff\xff\x02", 22)
	isRefused(t, "\xff\xff\xff\xff\xff\xff\xff\xff\xff\xff", 22)
	one := Encode(list(written("a", "x")))
	for n := range len(one) {
		isRefused(t, one[:n], 20)
	}
	isRefused(t, one+"\x00", 22)
	isRefused(t, one+one, 22)
	// The whole comes first, whatever its strings are.
	isRefused(t, "\x02\x00", 20)
	isRefused(t, "\x02\x01\x00", 20)
	isRefused(t, "\x01\x00\x00", 22)
	isRefused(t, "\x02\x01\x80", 20)
	isRefused(t, "\x01\x01\x80\x00", 22)
}

func TestP6_5ErrorsOfAString(t *testing.T) {
	good := codec.Pack([]string{"\x02", "a", "", "x"})
	for _, c := range []struct {
		one  string
		want api.Errno
	}{
		{"", 20}, {"\x80", 20}, {"\x04", 20}, {"\x04\x01\x02", 20}, {"\x05\x01\x02\x00\x00\x00", 20}, {"\x04\x01\x02\x00\x00\x01", 20},
		{"\x80\x00", 22}, {"\x84\x00\x01\x02\x00\x00\x00", 22}, {"\x04\x81\x00\x02\x00\x00\x00", 22}, {"\xff\xff\xff\xff\xff\xff\xff\xff\xff\x02", 22},
		{good + "\x00", 22}, {good + good, 22}, {good[:len(good)-1], 20}, {good[:1], 20},
		{"\x00", 22}, {"\x00\x00", 22}, {"\x01\x01\x02", 22}, {"\x03\x01\x02\x01a\x00", 22}, {"\x05\x01\x02\x01a\x00\x00\x00", 22}, {"\x05\x00\x01\x02\x01a\x00\x00", 22},
		// kinds that are not a number, or more than one
		{codec.Pack([]string{"", "a", "", "x"}), 22},
		{codec.Pack([]string{"\x80", "a", "", "x"}), 22},
		{codec.Pack([]string{"\x82\x00", "a", "", "x"}), 22},
		{codec.Pack([]string{"\x02\x00", "a", "", "x"}), 22},
		{codec.Pack([]string{"\x02\x02", "a", "", "x"}), 22},
		{codec.Pack([]string{"\x82\x80\x80", "a", "", "x"}), 22},
		{codec.Pack([]string{"\xff\xff\xff\xff\xff\xff\xff\xff\xff\x02", "a", "", "x"}), 22},
		{codec.Pack([]string{"\xff\xff\xff\xff\xff\xff\xff\xff\xff\x01\x00", "a", "", "x"}), 22},
		{codec.Pack([]string{"\xff\xff\xff\xff\xff\xff\xff\xff\xff\xff\x01", "a", "", "x"}), 22},
	} {
		isRefused(t, codec.Pack([]string{c.one}), c.want)
		isRefused(t, codec.Pack([]string{good, good, c.one}), c.want)
		isRefused(t, codec.Pack([]string{c.one, good}), c.want)
		// The first string that is wrong counts.
		isRefused(t, codec.Pack([]string{good, c.one, ""}), c.want)
		isRefused(t, codec.Pack([]string{good, c.one, "\x00"}), c.want)
		isRefused(t, codec.Pack([]string{"", c.one}), 20)
		isRefused(t, codec.Pack([]string{"\x00", c.one}), 22)
	}
}

func TestP6_5DecodeOfNoEdits(t *testing.T) {
	if l, e := Decode("\x00"); len(l) != 0 || e != api.OK {
		t.Errorf("%v, error %d", l, e)
	}
}

// sameDecode checks that Decode does what the chapter's words do, and returns its error.
func sameDecode(t *testing.T, s string) api.Errno {
	t.Helper()
	l, e := Decode(s)
	want, wantE := decodeByWords(s)
	if e != wantE || !slices.Equal(l, want) {
		t.Fatalf("Decode(%q): %v, error %d; want %v, error %d", s, l, e, want, wantE)
	}
	if e == api.OK && Encode(l) != s {
		t.Fatalf("Encode of Decode(%q): %q", s, Encode(l))
	}
	return e
}

func TestP6_5AllShortStringsFollowTheWords(t *testing.T) {
	results := map[api.Errno]int{}
	for _, s := range samples.Strings("\x00\x01\x04\x80", 6) {
		sameDecode(t, s)
		results[sameDecode(t, codec.Pack([]string{s}))]++
		results[sameDecode(t, codec.Pack([]string{"\x04" + s}))]++
		results[sameDecode(t, codec.Pack([]string{codec.Pack([]string{s, "", "a", ""})}))]++
	}
	for _, e := range []api.Errno{api.OK, api.ErrShort, api.ErrForm} {
		if results[e] < 10 {
			t.Errorf("only %d calls with the error %d", results[e], e)
		}
	}
}

func TestP6_5ChangedEncodingsFollowTheWords(t *testing.T) {
	for seed := range uint32(300) {
		below := samples.Below(seed)
		s := []byte(Encode(randomEdits(seed)(3)))
		for i := range s {
			changed := slices.Clone(s)
			changed[i] = []byte{0, 1, 4, 0x80, 0xff, s[i] + 1, s[i] - 1}[below(7)]
			sameDecode(t, string(changed))
			sameDecode(t, string(s[:i]))
			sameDecode(t, string(slices.Delete(slices.Clone(s), i, i+1)))
			sameDecode(t, string(slices.Insert(slices.Clone(s), i, byte(below(6)))))
		}
	}
}
