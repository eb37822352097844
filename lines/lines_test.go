package lines

import (
	"cmp"
	"math"
	"slices"
	"strconv"
	"strings"
	"testing"

	"mainline/api"
	"mainline/samples"
)

// text returns a text with one line for each letter.
func text(letters string) string {
	var b strings.Builder
	for _, letter := range letters {
		b.WriteRune(letter)
		b.WriteByte('\n')
	}
	return b.String()
}

// list returns a list with one string for each letter.
func list(letters string) []string {
	if letters == "" {
		return nil
	}
	return strings.Split(letters, "")
}

// wordsOf returns a function that makes words of the first letters of the alphabet, always in the same order.
func wordsOf(seed uint32) func(letters, most int) string {
	below := samples.Below(seed)
	return func(letters, most int) string {
		var b strings.Builder
		for range below(most + 1) {
			b.WriteByte(byte('a' + below(letters)))
		}
		return b.String()
	}
}

// numbered returns n different lines.
func numbered(prefix string, n int) []string {
	l := make([]string, n)
	for i := range l {
		l[i] = prefix + strconv.Itoa(i) + "\n"
	}
	return l
}

// replaced returns l with another line at i.
func replaced(l []string, i int, line string) []string {
	other := slices.Clone(l)
	other[i] = line
	return other
}

// commonLength returns the length of the longest common subsequence.
func commonLength(a, b []string) int {
	table := make([][]int, len(a)+1)
	for i := range table {
		table[i] = make([]int, len(b)+1)
	}
	for i := range a {
		for j := range b {
			table[i+1][j+1] = max(table[i][j+1], table[i+1][j])
			if a[i] == b[j] {
				table[i+1][j+1] = table[i][j] + 1
			}
		}
	}
	return table[len(a)][len(b)]
}

// alignmentByWords returns the pairs of the alignment, as the chapter's words say.
func alignmentByWords(a, b []string) [][2]int {
	var pairs, last [][2]int
	i, j, endA, endB := 0, 0, len(a), len(b)
	for i < endA && j < endB && a[i] == b[j] {
		pairs = append(pairs, [2]int{i, j})
		i, j = i+1, j+1
	}
	for i < endA && j < endB && a[endA-1] == b[endB-1] {
		endA, endB = endA-1, endB-1
		last = append(last, [2]int{endA, endB})
	}
	if (endA-i)*(endB-j) <= 4000000 {
		for i < endA && j < endB {
			switch {
			case a[i] == b[j]:
				pairs = append(pairs, [2]int{i, j})
				i, j = i+1, j+1
			case commonLength(a[i+1:endA], b[j:endB]) >= commonLength(a[i:endA], b[j+1:endB]):
				i++
			default:
				j++
			}
		}
	}
	slices.Reverse(last)
	return append(pairs, last...)
}

// diffByWords returns the hunks of the alignment, as the chapter's words say.
func diffByWords(a, b []string) []api.Hunk {
	var hunks []api.Hunk
	before := [2]int{-1, -1}
	for _, pair := range append(alignmentByWords(a, b), [2]int{len(a), len(b)}) {
		h := api.Hunk{A0: before[0] + 1, A1: pair[0], B0: before[1] + 1, B1: pair[1]}
		if h.A0 < h.A1 || h.B0 < h.B1 {
			hunks = append(hunks, h)
		}
		before = pair
	}
	return hunks
}

// fitByWords tells whether hunks fit lists of these lengths, as the chapter's words say.
func fitByWords(a, b int, h []api.Hunk) bool {
	for i, x := range h {
		if !(0 <= x.A0 && x.A0 <= x.A1 && x.A1 <= a && 0 <= x.B0 && x.B0 <= x.B1 && x.B1 <= b) {
			return false
		}
		if i > 0 && x.A0 < h[i-1].A1 {
			return false
		}
	}
	return true
}

// patchByWords replaces the lines of each hunk, the last hunk first, so that the numbers of the others stay.
func patchByWords(a, b []string, h []api.Hunk) []string {
	if !fitByWords(len(a), len(b), h) {
		return nil
	}
	l := slices.Clone(a)
	for _, x := range slices.Backward(h) {
		l = slices.Replace(l, x.A0, x.A1, b[x.B0:x.B1]...)
	}
	return l
}

// mergeByWords merges as the chapter's words say; swapped takes hunks of the right side first where the A0 are equal.
func mergeByWords(base, left, right string, swapped bool) (string, []api.Span) {
	type sided struct {
		api.Hunk
		right bool
	}
	b, sides := Split(base), [2][]string{Split(left), Split(right)}
	var all []sided
	for side, l := range sides {
		for _, h := range diffByWords(b, l) {
			all = append(all, sided{h, side == 1})
		}
	}
	if swapped {
		slices.Reverse(all)
	}
	slices.SortStableFunc(all, func(x, y sided) int { return cmp.Compare(x.A0, y.A0) })
	var groups [][]sided
	var spans []api.Span
	for _, h := range all {
		if n := len(groups) - 1; n >= 0 && h.A0 <= spans[n].To {
			groups[n] = append(groups[n], h)
			spans[n].To = max(spans[n].To, h.A1)
			continue
		}
		groups = append(groups, []sided{h})
		spans = append(spans, api.Span{From: h.A0, To: h.A1})
	}
	var merged []string
	var conflicts []api.Span
	done := 0
	for i, g := range groups {
		span := spans[i]
		var hunks [2][]api.Hunk
		for _, h := range g {
			side := 0
			if h.right {
				side = 1
			}
			hunks[side] = append(hunks[side], api.Hunk{A0: h.A0 - span.From, A1: h.A1 - span.From, B0: h.B0, B1: h.B1})
		}
		slices.SortFunc(hunks[0], func(x, y api.Hunk) int { return cmp.Compare(x.A0, y.A0) })
		slices.SortFunc(hunks[1], func(x, y api.Hunk) int { return cmp.Compare(x.A0, y.A0) })
		l := patchByWords(b[span.From:span.To], sides[0], hunks[0])
		r := patchByWords(b[span.From:span.To], sides[1], hunks[1])
		merged = append(merged, b[done:span.From]...)
		done = span.To
		switch {
		case len(hunks[1]) == 0 || slices.Equal(l, r):
			merged = append(merged, l...)
		case len(hunks[0]) == 0:
			merged = append(merged, r...)
		default:
			conflicts = append(conflicts, span)
		}
	}
	if len(conflicts) > 0 {
		return "", conflicts
	}
	return strings.Join(append(merged, b[done:]...), ""), nil
}

func TestP2_1SplitOfKnownTexts(t *testing.T) {
	for s, want := range map[string][]string{
		"":                 nil,
		"a":                {"a"},
		"\n":               {"\n"},
		"\n\n":             {"\n", "\n"},
		"a\n":              {"a\n"},
		"a\n\nb":           {"a\n", "\n", "b"},
		"a\n\nb\n":         {"a\n", "\n", "b\n"},
		"\na":              {"\n", "a"},
		"a\r\nb\rc":        {"a\r\n", "b\rc"},
		"a\x00\n\x0b\x0c":  {"a\x00\n", "\x0b\x0c"},
		"\xff\n\xe2\x80\n": {"\xff\n", "\xe2\x80\n"},
		"\u2028\u0085\n":   {"\u2028\u0085\n"},
	} {
		if got := Split(s); !slices.Equal(got, want) {
			t.Errorf("Split(%q) = %q, want %q", s, got, want)
		}
	}
}

func TestP2_1LinesConcatenateToTheText(t *testing.T) {
	long := strings.Repeat(strings.Repeat("x", 1000)+"\n\n", 1000)
	for _, s := range append(samples.Strings("a\n\r\xff", 6), long, long+"y") {
		l := Split(s)
		if strings.Join(l, "") != s {
			t.Errorf("Split(%q) = %q", s, l)
		}
		for i, line := range l {
			end := strings.IndexByte(line, '\n')
			if line == "" || end >= 0 && end < len(line)-1 || end < 0 && i < len(l)-1 {
				t.Errorf("Split(%q): line %d is %q", s, i, line)
			}
		}
	}
}

func TestP2_2DiffOfKnownLists(t *testing.T) {
	for _, c := range []struct {
		a, b string
		want []api.Hunk
	}{
		{"", "", nil},
		{"abc", "abc", nil},
		{"", "ab", []api.Hunk{{A0: 0, A1: 0, B0: 0, B1: 2}}},
		{"ab", "", []api.Hunk{{A0: 0, A1: 2, B0: 0, B1: 0}}},
		{"a", "b", []api.Hunk{{A0: 0, A1: 1, B0: 0, B1: 1}}},
		{"abcd", "axcde", []api.Hunk{{A0: 1, A1: 2, B0: 1, B1: 2}, {A0: 4, A1: 4, B0: 4, B1: 5}}},
		// Equal lengths: a is skipped first.
		{"ab", "ba", []api.Hunk{{A0: 0, A1: 1, B0: 0, B1: 0}, {A0: 2, A1: 2, B0: 1, B1: 2}}},
		{"xaby", "zbaw", []api.Hunk{{A0: 0, A1: 2, B0: 0, B1: 1}, {A0: 3, A1: 4, B0: 2, B1: 4}}},
		// Equal lines are paired from the beginning first, and only then from the end.
		{"aab", "ab", []api.Hunk{{A0: 1, A1: 2, B0: 1, B1: 1}}},
		{"ab", "aab", []api.Hunk{{A0: 1, A1: 1, B0: 1, B1: 2}}},
		{"abab", "ab", []api.Hunk{{A0: 2, A1: 4, B0: 2, B1: 2}}},
		{"aaaa", "aa", []api.Hunk{{A0: 2, A1: 4, B0: 2, B1: 2}}},
		{"aa", "aaaa", []api.Hunk{{A0: 2, A1: 2, B0: 2, B1: 4}}},
		{"axbya", "aya", []api.Hunk{{A0: 1, A1: 3, B0: 1, B1: 1}}},
		// Equal lines at the ends are paired before the lengths are asked for, which would pair the second a with the first one.
		{"ba", "aa", []api.Hunk{{A0: 0, A1: 1, B0: 0, B1: 1}}},
		{"bac", "aac", []api.Hunk{{A0: 0, A1: 1, B0: 0, B1: 1}}},
		// Even an equal line is skipped, before it is met, if nothing is lost by that.
		{"xaaby", "zabaw", []api.Hunk{{A0: 0, A1: 2, B0: 0, B1: 1}, {A0: 4, A1: 5, B0: 3, B1: 5}}},
		{"xabcy", "zcabw", []api.Hunk{{A0: 0, A1: 1, B0: 0, B1: 2}, {A0: 3, A1: 5, B0: 4, B1: 5}}},
	} {
		if got := Diff(list(c.a), list(c.b)); !slices.Equal(got, c.want) {
			t.Errorf("Diff(%s, %s) = %v, want %v", c.a, c.b, got, c.want)
		}
	}
}

func TestP2_2DiffComparesArbitraryStrings(t *testing.T) {
	a := []string{"x", "", "a\nb", "\xff", "a", "y"}
	b := []string{"z", "a\nb", "", "\xff", "a\n", "w"}
	want := []api.Hunk{{A0: 0, A1: 2, B0: 0, B1: 1}, {A0: 3, A1: 3, B0: 2, B1: 3}, {A0: 4, A1: 6, B0: 4, B1: 6}}
	if got := Diff(a, b); !slices.Equal(got, want) {
		t.Errorf("Diff(%q, %q) = %v, want %v", a, b, got, want)
	}
}

func TestP2_2EmptyStringsAreLinesLikeOthers(t *testing.T) {
	for _, c := range [][2][]string{{{"x", "", "y"}, {"z", "v", "w", "u"}}, {{"x", "y", "v", "u"}, {"z", "", "w"}}, {{"x", "", "y"}, {"z", "", "w"}}} {
		if got, want := Diff(c[0], c[1]), diffByWords(c[0], c[1]); !slices.Equal(got, want) {
			t.Errorf("Diff(%q, %q) = %v, want %v", c[0], c[1], got, want)
		}
	}
}

func TestP2_2DiffOfAllShortLists(t *testing.T) {
	words := samples.Strings("abc", 5)
	for _, a := range words {
		for _, b := range words {
			x, y := list(a), list(b)
			if got, want := Diff(x, y), diffByWords(x, y); !slices.Equal(got, want) {
				t.Fatalf("Diff(%s, %s) = %v, want %v", a, b, got, want)
			}
		}
	}
}

func TestP2_2DiffOfLongerLists(t *testing.T) {
	word := wordsOf(1)
	for i := range 4000 {
		letters := 2 + i%5
		a, b := list(word(letters, 20)), list(word(letters, 20))
		if got, want := Diff(a, b), diffByWords(a, b); !slices.Equal(got, want) {
			t.Fatalf("Diff(%q, %q) = %v, want %v", a, b, got, want)
		}
	}
}

// framed returns l with equal lines before and behind it.
func framed(l []string) []string {
	return slices.Concat(numbered("before", 100), l, numbered("behind", 200))
}

func TestP2_2TheProductOfTheRemainingLinesIsLimited(t *testing.T) {
	for _, c := range []struct {
		a, b    int
		aligned bool
	}{
		{2000, 2000, true},
		{2000, 2001, false},
		{2001, 2000, false},
		{1999, 2001, true},
		{1000, 4000, true},
		{4000, 1000, true},
		{1000, 4001, false},
		{4001, 1000, false},
		{1, 4000000, true},
		{4000000, 1, true},
		{1, 4000001, false},
		{4000001, 1, false},
		{3, 1333333, true},
		{3, 1333334, false},
		{1333334, 3, false},
	} {
		a, b := numbered("a", c.a), numbered("b", c.b)
		i, j := c.a/2, c.b/2
		a[i], b[j] = "common\n", "common\n"
		want := []api.Hunk{{A0: 0, A1: c.a, B0: 0, B1: c.b}}
		if c.aligned {
			want = []api.Hunk{{A0: 0, A1: i, B0: 0, B1: j}, {A0: i + 1, A1: c.a, B0: j + 1, B1: c.b}}
			want = slices.DeleteFunc(want, func(h api.Hunk) bool { return h.A0 == h.A1 && h.B0 == h.B1 })
		}
		if got := Diff(a, b); !slices.Equal(got, want) {
			t.Errorf("Diff of %d and %d lines = %v, want %v", c.a, c.b, got, want)
		}
		for k := range want {
			want[k] = api.Hunk{A0: want[k].A0 + 100, A1: want[k].A1 + 100, B0: want[k].B0 + 100, B1: want[k].B1 + 100}
		}
		if got := Diff(framed(a), framed(b)); !slices.Equal(got, want) {
			t.Errorf("Diff of %d and %d framed lines = %v, want %v", c.a, c.b, got, want)
		}
	}
}

func TestP2_2LongListsWithShortDifferences(t *testing.T) {
	l := numbered("line", 300000)
	if got, want := Diff(l, replaced(l, 150000, "other")), []api.Hunk{{A0: 150000, A1: 150001, B0: 150000, B1: 150001}}; !slices.Equal(got, want) {
		t.Errorf("Diff with one other line = %v, want %v", got, want)
	}
	if got, want := Diff(nil, l), []api.Hunk{{B1: 300000}}; !slices.Equal(got, want) {
		t.Errorf("Diff of none and many = %v, want %v", got, want)
	}
	if got, want := Diff(l, nil), []api.Hunk{{A1: 300000}}; !slices.Equal(got, want) {
		t.Errorf("Diff of many and none = %v, want %v", got, want)
	}
	if got := Diff(l, slices.Clone(l)); len(got) != 0 {
		t.Errorf("Diff of equal lists = %v", got)
	}
}

func TestP2_2PairsCanBeLeftEarlyAndReadTwice(t *testing.T) {
	all := pairs(list("xaybz"), list("uavbw"))
	for range 2 {
		var got [][2]int
		for i, j := range all {
			got = append(got, [2]int{i, j})
			break
		}
		if !slices.Equal(got, [][2]int{{1, 1}}) {
			t.Errorf("pairs %v", got)
		}
	}
}

func TestP2_3PatchOfKnownLists(t *testing.T) {
	for _, c := range []struct {
		a, b string
		h    []api.Hunk
		want string
	}{
		{"", "", nil, ""},
		{"abc", "xyz", nil, "abc"},
		{"", "", []api.Hunk{{}}, ""},
		{"", "xy", []api.Hunk{{B1: 2}}, "xy"},
		{"abc", "", []api.Hunk{{A1: 3}}, ""},
		{"abc", "xyz", []api.Hunk{{A0: 1, A1: 2, B0: 1, B1: 2}}, "ayc"},
		{"abc", "xyz", []api.Hunk{{A0: 0, A1: 3, B0: 0, B1: 3}}, "xyz"},
		{"abc", "xyz", []api.Hunk{{A0: 3, A1: 3, B0: 0, B1: 2}}, "abcxy"},
		{"abc", "xyz", []api.Hunk{{A0: 0, A1: 0, B0: 3, B1: 3}}, "abc"},
		{"abc", "xyz", []api.Hunk{{A0: 0, A1: 1, B0: 0, B1: 2}, {A0: 2, A1: 3, B0: 2, B1: 3}}, "xybz"},
		// Hunks may touch, and have equal A0.
		{"abc", "xyz", []api.Hunk{{A0: 0, A1: 1, B0: 0, B1: 1}, {A0: 1, A1: 2, B0: 1, B1: 2}}, "xyc"},
		{"abc", "xyz", []api.Hunk{{A0: 1, A1: 1, B0: 0, B1: 1}, {A0: 1, A1: 1, B0: 1, B1: 2}, {A0: 1, A1: 2, B0: 2, B1: 3}}, "axyzc"},
		{"abc", "xyz", []api.Hunk{{A0: 3, A1: 3, B0: 0, B1: 1}, {A0: 3, A1: 3, B0: 1, B1: 2}}, "abcxy"},
		// The lines of b need not be in order, and may be used again.
		{"abc", "xyz", []api.Hunk{{A0: 0, A1: 1, B0: 2, B1: 3}, {A0: 1, A1: 3, B0: 0, B1: 2}}, "zxy"},
		{"abc", "xyz", []api.Hunk{{A0: 0, A1: 0, B0: 0, B1: 3}, {A0: 3, A1: 3, B0: 0, B1: 3}}, "xyzabcxyz"},
		// Hunks may change nothing.
		{"abc", "abc", []api.Hunk{{A0: 1, A1: 2, B0: 1, B1: 2}, {A0: 2, A1: 2, B0: 3, B1: 3}}, "abc"},
	} {
		if got := Patch(list(c.a), list(c.b), c.h); !slices.Equal(got, list(c.want)) {
			t.Errorf("Patch(%s, %s, %v) = %q, want %s", c.a, c.b, c.h, got, c.want)
		}
	}
}

func TestP2_3HunksThatDoNotFit(t *testing.T) {
	good := api.Hunk{A0: 1, A1: 2, B0: 1, B1: 2}
	for _, h := range [][]api.Hunk{
		{{A0: -1}},
		{{A0: -1, A1: -1}},
		{{A0: -2, A1: 1}},
		{{A1: -1}},
		{{A0: 1, A1: 0}},
		{{A0: 2, A1: 1, B1: 1}},
		{{A1: 4}},
		{{A0: 4, A1: 4}},
		{{A0: 3, A1: 4}},
		{{B0: -1}},
		{{B0: -1, B1: -1}},
		{{B0: -1, B1: 1}},
		{{B1: -1}},
		{{B0: 1, B1: 0}},
		{{B1: 3}},
		{{B0: 3, B1: 3}},
		{{B0: 2, B1: 3}},
		{{A0: math.MinInt, A1: math.MinInt}},
		{{A0: math.MinInt, A1: math.MaxInt}},
		{{A0: math.MaxInt, A1: math.MinInt}},
		{{A0: math.MaxInt, A1: math.MaxInt}},
		{{A1: math.MaxInt}},
		{{A1: math.MinInt}},
		{{B0: math.MinInt, B1: math.MaxInt}},
		{{B0: math.MaxInt, B1: math.MinInt}},
		{{B1: math.MaxInt}},
		{{B0: math.MinInt}},
		// Each of these hunks would fit alone.
		{good, good},
		{good, {A0: 0, A1: 0}},
		{good, {A0: 1, A1: 1}},
		{good, {A0: 1, A1: 3}},
		{{A0: 0, A1: 3}, {A0: 2, A1: 2}},
		{{A0: 3, A1: 3}, {A0: 0, A1: 1}},
		{{A0: 3, A1: 3}, {A0: 2, A1: 3}},
		// The wrong hunk is not the first one, or not the last one.
		{good, {A0: 2, A1: 4}},
		{good, {A0: 3, A1: 2}},
		{good, {A0: 2, A1: 3, B0: 2, B1: 1}},
		{good, {A0: 2, A1: 3, B0: 0, B1: 3}},
		{{A0: -1}, good},
		{{A0: 0, A1: 1, B0: 0, B1: 3}, good},
	} {
		if got := Patch(list("abc"), list("xy"), h); len(got) != 0 {
			t.Errorf("Patch with %v = %q", h, got)
		}
	}
	if got := Patch(nil, nil, []api.Hunk{{A1: 1}}); len(got) != 0 {
		t.Errorf("Patch of the empty list = %q", got)
	}
}

func TestP2_3PatchWithAllSmallHunks(t *testing.T) {
	a, b := list("ab"), list("x")
	var hunks []api.Hunk
	for i := range 4 * 4 * 3 * 4 {
		hunks = append(hunks, api.Hunk{A0: i%4 - 1, A1: i/4%4 - 1 + i/16%2, B0: i/16%3 - 1, B1: i/48 - 1})
	}
	for _, first := range hunks {
		for _, second := range hunks {
			for _, h := range [][]api.Hunk{{first}, {first, second}} {
				if got, want := Patch(a, b, h), patchByWords(a, b, h); !slices.Equal(got, want) {
					t.Fatalf("Patch(%q, %q, %v) = %q, want %q", a, b, h, got, want)
				}
			}
		}
	}
}

func TestP2_3PatchReturnsNewMemory(t *testing.T) {
	a, b := list("abc"), list("xyz")
	for _, h := range [][]api.Hunk{nil, {{A0: 0, A1: 3, B0: 0, B1: 3}}, {{A0: 1, A1: 2, B0: 1, B1: 2}}} {
		before := slices.Clone(h)
		got := Patch(a, b, h)
		clear(got)
		if !slices.Equal(a, list("abc")) || !slices.Equal(b, list("xyz")) || !slices.Equal(h, before) {
			t.Errorf("Patch with %v: %q, %q, %v", before, a, b, h)
		}
	}
}

func TestP2_4MergeOfKnownTexts(t *testing.T) {
	for _, c := range []struct {
		base, left, right, want string
		spans                   []api.Span
	}{
		{"", "", "", "", nil},
		{"abc", "abc", "abc", "abc", nil},
		{"abc", "xbc", "aby", "xby", nil},
		{"abc", "abc", "", "", nil},
		{"abc", "", "abc", "", nil},
		{"abc", "", "", "", nil},
		{"", "a", "", "a", nil},
		{"", "", "a", "a", nil},
		// Several changes on both sides, between each other.
		{"abcdefghi", "Xbcdefghi", "abXdefghi", "XbXdefghi", nil},
		{"abcdefghi", "XbcdXfghi", "abYdefYhi", "XbYdXfYhi", nil},
		{"abcdefghi", "bcdfghi", "abXcdefgXh", "bXcdfgXh", nil},
		// Equal changes.
		{"", "a", "a", "a", nil},
		{"abc", "axc", "axc", "axc", nil},
		{"abc", "ac", "ac", "ac", nil},
		{"abc", "axbc", "axbc", "axbc", nil},
		{"abcde", "xbcde", "xbcdy", "xbcdy", nil},
		// Different changes of the same lines.
		{"abc", "axc", "ayc", "", []api.Span{{From: 1, To: 2}}},
		{"abc", "ac", "ayc", "", []api.Span{{From: 1, To: 2}}},
		{"abc", "x", "y", "", []api.Span{{From: 0, To: 3}}},
		{"abc", "x", "", "", []api.Span{{From: 0, To: 3}}},
		// Insertions at the same position.
		{"", "a", "b", "", []api.Span{{From: 0, To: 0}}},
		{"ab", "axb", "ayb", "", []api.Span{{From: 1, To: 1}}},
		{"ab", "xab", "yab", "", []api.Span{{From: 0, To: 0}}},
		{"ab", "abx", "aby", "", []api.Span{{From: 2, To: 2}}},
		{"ab", "axb", "axyb", "", []api.Span{{From: 1, To: 1}}},
		// Changes that touch.
		{"abc", "axc", "aby", "", []api.Span{{From: 1, To: 3}}},
		{"abc", "aby", "axc", "", []api.Span{{From: 1, To: 3}}},
		{"ab", "b", "a", "", []api.Span{{From: 0, To: 2}}},
		{"abcd", "axcd", "abycd", "", []api.Span{{From: 1, To: 2}}},
		{"abcd", "abxd", "abycd", "", []api.Span{{From: 2, To: 3}}},
		// One line between them is enough.
		{"abcd", "axcd", "abcy", "axcy", nil},
		{"abcd", "axcd", "abcyd", "axcyd", nil},
		{"abcd", "abcx", "yabcd", "yabcx", nil},
		// Changes that overlap, or lie within each other.
		{"abcde", "ade", "abXcde", "", []api.Span{{From: 1, To: 3}}},
		{"abcdef", "aXXdef", "abYYef", "", []api.Span{{From: 1, To: 4}}},
		{"abcdef", "axf", "abcYef", "", []api.Span{{From: 1, To: 5}}},
		// A change of one side joins several ones of the other.
		{"abcdefg", "aXcdXfg", "abYYYfg", "", []api.Span{{From: 1, To: 5}}},
		{"abcdefg", "aXcdXfZ", "abYYYfg", "", []api.Span{{From: 1, To: 5}}},
		{"abcdefghi", "aXcXeXghi", "aYYYYghi", "", []api.Span{{From: 1, To: 6}}},
		{"abcdefghi", "aYYYYghi", "aXcXeXghi", "", []api.Span{{From: 1, To: 6}}},
		// Chains of hunks of which each one touches only the next.
		{"abcdefgh", "aXXdeXXh", "abcYYfgh", "", []api.Span{{From: 1, To: 7}}},
		// Some groups conflict, others do not.
		{"abcdefg", "Xbcdefg", "Ybcdefgh", "", []api.Span{{From: 0, To: 1}}},
		{"abcdefg", "XbcdeZg", "YbcdeWg", "", []api.Span{{From: 0, To: 1}, {From: 5, To: 6}}},
		{"abcdefg", "XbQdeZg", "YbQdeWg", "", []api.Span{{From: 0, To: 1}, {From: 5, To: 6}}},
		{"abcdefg", "XbcdeZg", "YbQdeZg", "", []api.Span{{From: 0, To: 1}}},
	} {
		got, spans := Merge(text(c.base), text(c.left), text(c.right))
		if got != text(c.want) || !slices.Equal(spans, c.spans) {
			t.Errorf("Merge(%s, %s, %s) = %q, %v, want %s, %v", c.base, c.left, c.right, got, spans, c.want, c.spans)
		}
	}
}

func TestP2_4LastLinesWithoutLineFeed(t *testing.T) {
	for _, c := range []struct {
		base, left, right, want string
		spans                   []api.Span
	}{
		{"a\nb", "a\nb\nc", "x\na\nb", "x\na\nb\nc", nil},
		{"a\nb\nc", "a\nb\nc\n", "x\nb\nc", "x\nb\nc\n", nil},
		{"a\nb\nc\n", "a\nb\nc", "x\nb\nc\n", "x\nb\nc", nil},
		{"a\nb", "a\nb\n", "a\nb\n", "a\nb\n", nil},
		{"a", "a\n", "b", "", []api.Span{{From: 0, To: 1}}},
		{"a\nb", "a\nb\n", "a\nb\nc", "", []api.Span{{From: 1, To: 2}}},
		{"", "a", "a\n", "", []api.Span{{From: 0, To: 0}}},
		{"a", "", "a\n", "", []api.Span{{From: 0, To: 1}}},
	} {
		got, spans := Merge(c.base, c.left, c.right)
		if got != c.want || !slices.Equal(spans, c.spans) {
			t.Errorf("Merge(%q, %q, %q) = %q, %v, want %q, %v", c.base, c.left, c.right, got, spans, c.want, c.spans)
		}
	}
}

// checkMerge compares Merge with the chapter's words, in both orders of hunks with equal A0.
func checkMerge(t *testing.T, base, left, right string) {
	got, spans := Merge(base, left, right)
	for _, swapped := range []bool{false, true} {
		if want, conflicts := mergeByWords(base, left, right, swapped); got != want || !slices.Equal(spans, conflicts) {
			t.Fatalf("Merge(%q, %q, %q) = %q, %v, want %q, %v", base, left, right, got, spans, want, conflicts)
		}
	}
}

func TestP2_4MergeOfAllShortTexts(t *testing.T) {
	for _, alphabet := range []struct {
		letters string
		most    int
	}{{"ab", 4}, {"abc", 2}} {
		words := samples.Strings(alphabet.letters, alphabet.most)
		for _, base := range words {
			for _, left := range words {
				for _, right := range words {
					checkMerge(t, text(base), text(left), text(right))
				}
			}
		}
	}
	bytes := samples.Strings("a\n", 4)
	for _, base := range bytes {
		for _, left := range bytes {
			for _, right := range bytes {
				checkMerge(t, base, left, right)
			}
		}
	}
}

func TestP2_4MergeOfLongerTexts(t *testing.T) {
	word := wordsOf(2)
	for i := range 3000 {
		letters := 2 + i%6
		checkMerge(t, text(word(letters, 12)), text(word(letters, 12)), text(word(letters, 12)))
	}
}

// changed returns the letters with some of them removed, replaced, or with another one before them; choices has a letter for each of them.
func changed(letters, choices, fresh string) string {
	var b strings.Builder
	for i := range len(letters) {
		choice := byte('a')
		if i < len(choices) {
			choice = choices[i]
		}
		switch choice {
		case 'b':
		case 'c':
			b.WriteString(fresh)
		case 'd':
			b.WriteString(fresh + letters[i:i+1])
		default:
			b.WriteByte(letters[i])
		}
	}
	return b.String()
}

func TestP2_4MergeOfChangesOfOneText(t *testing.T) {
	word := wordsOf(3)
	merged, conflicts := 0, 0
	for i := range 10000 {
		letters := 4 + i%12
		base := "abcdefghijklmnop"[:letters]
		left, right := changed(base, word(4+i%5, 16), "x"), changed(base, word(4+i%7, 16), "xy"[i%2:][:1])
		checkMerge(t, text(base), text(left), text(right))
		if _, spans := Merge(text(base), text(left), text(right)); len(spans) > 0 {
			conflicts++
		} else {
			merged++
		}
	}
	if merged < 1000 || conflicts < 1000 {
		t.Errorf("%d merged, %d conflicts: the texts do not show both", merged, conflicts)
	}
}

func TestP2_4MergeBeyondTheLimit(t *testing.T) {
	base := numbered("base", 2001)
	base[1000] = "common\n"
	left := numbered("left", 2000)
	left[1000] = "common\n"
	right := slices.Clone(base)
	right[1000] = "other\n"
	span := []api.Span{{From: 0, To: 2001}}
	if got, spans := Merge(strings.Join(base, ""), strings.Join(left, ""), strings.Join(right, "")); got != "" || !slices.Equal(spans, span) {
		t.Errorf("Merge with a change beyond the limit = %d bytes, %v", len(got), spans)
	}
}

func TestP2_4GroupsCanBeLeftEarlyAndReadTwice(t *testing.T) {
	all := groups([]api.Hunk{{A0: 1, A1: 2}, {A0: 5, A1: 6}}, []api.Hunk{{A0: 2, A1: 3}})
	for range 2 {
		n := 0
		for g := range all {
			n++
			if g.span != (api.Span{From: 1, To: 3}) || len(g.left) != 1 || len(g.right) != 1 {
				t.Errorf("group %v", g)
			}
			break
		}
		if n != 1 {
			t.Errorf("%d groups", n)
		}
	}
}

// checkDifference checks what the chapter says follows for two lists.
func checkDifference(t *testing.T, a, b []string) {
	h := Diff(a, b)
	if got := Patch(a, b, h); !slices.Equal(got, b) {
		t.Fatalf("Patch(%q, %q, %v) = %q", a, b, h, got)
	}
	pairs := len(a)
	for i, x := range h {
		pairs -= x.A1 - x.A0
		if i > 0 && (h[i-1].A1 >= x.A0 || h[i-1].B1 >= x.B0) {
			t.Fatalf("Diff(%q, %q) = %v: no pair before hunk %d", a, b, h, i)
		}
	}
	if want := commonLength(a, b); pairs != want {
		t.Fatalf("Diff(%q, %q) = %v: %d pairs, want %d", a, b, h, pairs, want)
	}
}

func TestP2_5PatchUndoesDiff(t *testing.T) {
	words := samples.Strings("abc", 5)
	for _, a := range words {
		for _, b := range words {
			checkDifference(t, list(a), list(b))
		}
	}
	word := wordsOf(4)
	for i := range 300 {
		checkDifference(t, list(word(2+i%20, 200)), list(word(2+i%20, 200)))
	}
}

func TestP2_5PatchUndoesDiffBeyondTheLimit(t *testing.T) {
	a, b := numbered("a", 3000), numbered("b", 3000)
	b[7], b[2000] = a[7], a[100]
	for _, c := range [][2][]string{{a, b}, {framed(a), framed(b)}, {a, nil}, {nil, b}} {
		if got := Patch(c[0], c[1], Diff(c[0], c[1])); !slices.Equal(got, c[1]) {
			t.Errorf("Patch of %d lines to %d lines is wrong", len(c[0]), len(c[1]))
		}
	}
}

func TestP2_5MergeWithOneChange(t *testing.T) {
	texts := samples.Strings("a\n", 5)
	for _, word := range samples.Strings("abc", 3) {
		texts = append(texts, text(word))
	}
	for _, base := range texts {
		for _, changed := range texts {
			for _, sides := range [][2]string{{base, changed}, {changed, base}, {changed, changed}} {
				if got, spans := Merge(base, sides[0], sides[1]); got != changed || len(spans) != 0 {
					t.Fatalf("Merge(%q, %q, %q) = %q, %v", base, sides[0], sides[1], got, spans)
				}
			}
		}
	}
}

func TestP2_5MergeOfExchangedSides(t *testing.T) {
	word := wordsOf(5)
	for i := range 5000 {
		letters := 4 + i%12
		base := "abcdefghijklmnop"[:letters]
		left, right := text(changed(base, word(4+i%3, 16), "x")), text(changed(base, word(4+i%7, 16), "y"))
		got, spans := Merge(text(base), left, right)
		if other, conflicts := Merge(text(base), right, left); got != other || !slices.Equal(spans, conflicts) {
			t.Fatalf("Merge(%q, %q, %q) = %q, %v, but %q, %v with the sides exchanged", text(base), left, right, got, spans, other, conflicts)
		}
	}
}

func TestP1CallsEndForAllArguments(t *testing.T) {
	positions := []int{math.MinInt, math.MinInt + 1, -1, 0, 1, 2, 3, math.MaxInt - 1, math.MaxInt}
	lists := [][]string{nil, {}, {""}, {"", ""}, {"a", "b"}, {"\n", "a\nb", "\xff"}}
	for _, a := range lists {
		for _, b := range lists {
			Diff(a, b)
			for _, a0 := range positions {
				for _, a1 := range positions {
					for _, b0 := range positions {
						for _, b1 := range positions {
							h := []api.Hunk{{A0: a0, A1: a1, B0: b0, B1: b1}}
							if got := Patch(a, b, h); len(got) > 0 && !fitByWords(len(a), len(b), h) {
								t.Fatalf("Patch(%q, %q, %v) = %q", a, b, h, got)
							}
						}
					}
				}
			}
		}
	}
	for _, s := range samples.Strings("a\n\x00\xff", 4) {
		Split(s)
		Merge(s, "\xff\n", "a")
		Merge("\xff\n", s, "a")
		Merge("a", "\xff\n", s)
	}
}

func TestR1NilAndEmptyListsDoNotDiffer(t *testing.T) {
	for _, none := range [][]string{nil, {}} {
		for _, other := range [][]string{nil, {}} {
			if h := Diff(none, other); len(h) != 0 {
				t.Errorf("Diff of empty lists = %v", h)
			}
			for _, h := range [][]api.Hunk{nil, {}, {{}}} {
				if l := Patch(none, other, h); len(l) != 0 {
					t.Errorf("Patch of empty lists = %q", l)
				}
			}
		}
	}
}

func TestR3DiffLeavesItsArguments(t *testing.T) {
	a, b := list("xaby"), list("zbaw")
	first := Diff(a, b)
	clear(first)
	if second := Diff(a, b); !slices.Equal(second, diffByWords(a, b)) {
		t.Errorf("Diff the second time = %v", second)
	}
	if !slices.Equal(a, list("xaby")) || !slices.Equal(b, list("zbaw")) {
		t.Errorf("Diff changed its arguments to %q, %q", a, b)
	}
}
