package store

import (
	"math"
	"slices"
	"strconv"
	"strings"
	"testing"

	"mainline/api"
	"mainline/samples"
)

const nameBytes = "abcdefghijklmnopqrstuvwxyzABCDEFGHIJKLMNOPQRSTUVWXYZ0123456789_.-"

func file(name string, id int) api.Entry {
	return api.Entry{Name: name, Id: id}
}

func dir(name string, id int) api.Entry {
	return api.Entry{Name: name, Dir: true, Id: id}
}

func list(entries ...api.Entry) []api.Entry {
	return entries
}

// wantNumber checks what Blob or Tree returned with OK.
func wantNumber(t *testing.T, call string, id int, e api.Errno, want int) {
	t.Helper()
	if id != want || e != api.OK {
		t.Fatalf("%s: %d, error %d; want %d", call, id, e, want)
	}
}

func blob(t *testing.T, s *Store, text string, want int) {
	t.Helper()
	id, e := s.Blob(text)
	wantNumber(t, "Blob("+strconv.Quote(text[:min(len(text), 40)])+")", id, e, want)
}

func tree(t *testing.T, s *Store, want int, entries ...api.Entry) {
	t.Helper()
	id, e := s.Tree(entries)
	wantNumber(t, "Tree of "+strconv.Itoa(len(entries))+" entries", id, e, want)
}

// noTree checks that the entries are an error with which nothing comes into the store.
func noTree(t *testing.T, s *Store, entries ...api.Entry) {
	t.Helper()
	before := s.Many()
	if id, e := s.Tree(entries); id != 0 || e != api.ErrArg || s.Many() != before {
		t.Fatalf("Tree(%.200v): %d, error %d, then %d objects of %d; want 0, ErrArg", entries, id, e, s.Many(), before)
	}
}

func isText(t *testing.T, s *Store, id int, want string) {
	t.Helper()
	if text, ok := s.Text(id); text != want || !ok {
		t.Fatalf("Text(%d): %.40q, %v; want %.40q", id, text, ok, want)
	}
	if entries, ok := s.Entries(id); len(entries) != 0 || ok {
		t.Fatalf("Entries(%d) of a blob: %v, %v", id, entries, ok)
	}
}

func hasEntries(t *testing.T, s *Store, id int, want ...api.Entry) {
	t.Helper()
	if entries, ok := s.Entries(id); !slices.Equal(entries, want) || !ok {
		t.Fatalf("Entries(%d): %.200v, %v; want %.200v", id, entries, ok, want)
	}
	if text, ok := s.Text(id); text != "" || ok {
		t.Fatalf("Text(%d) of a tree: %q, %v", id, text, ok)
	}
}

// isNothing checks that there is no object with this number.
func isNothing(t *testing.T, s *Store, id int) {
	t.Helper()
	if text, ok := s.Text(id); text != "" || ok {
		t.Fatalf("Text(%d): %q, %v", id, text, ok)
	}
	if entries, ok := s.Entries(id); len(entries) != 0 || ok {
		t.Fatalf("Entries(%d): %v, %v", id, entries, ok)
	}
}

func hasMany(t *testing.T, s *Store, want int) {
	t.Helper()
	if many := s.Many(); many != want {
		t.Fatalf("Many: %d; want %d", many, want)
	}
}

// filled returns a store with the blobs 1 ("one") and 2 (the empty one), the empty tree 3, and the tree 4, which holds blob 1 as f.
func filled(t *testing.T) *Store {
	t.Helper()
	s := New()
	blob(t, s, "one", 1)
	blob(t, s, "", 2)
	tree(t, s, 3)
	tree(t, s, 4, file("f", 1))
	return s
}

// strangeNumbers returns numbers that no object of a store with many objects has.
func strangeNumbers(many int) []int {
	return []int{0, -1, -2, -many, many + 1, many + 2, 2*many + 1, math.MaxInt, math.MinInt, math.MaxInt32 + 1, 1 << 32, 1<<32 + 1, -1 << 31}
}

// byWords is a store that follows the chapter's words: it looks for equal objects one by one.
type byWords struct {
	kinds   []string // "blob" or "tree"
	texts   []string
	entries [][]api.Entry
}

func (w *byWords) put(kind, text string, entries []api.Entry) int {
	for i := range w.kinds {
		if w.kinds[i] == kind && w.texts[i] == text && slices.Equal(w.entries[i], entries) {
			return i + 1
		}
	}
	w.kinds, w.texts, w.entries = append(w.kinds, kind), append(w.texts, text), append(w.entries, slices.Clone(entries))
	return len(w.kinds)
}

func (w *byWords) holds(entry api.Entry) bool {
	switch {
	case entry.Id < 1 || entry.Id > len(w.kinds):
		return false
	case entry.Dir:
		return w.kinds[entry.Id-1] == "tree" && len(w.entries[entry.Id-1]) > 0
	}
	return w.kinds[entry.Id-1] == "blob"
}

func (w *byWords) blob(text string) (int, api.Errno) {
	if len(text) > 65536 {
		return 0, api.ErrMany
	}
	return w.put("blob", text, nil), api.OK
}

func (w *byWords) tree(entries []api.Entry) (int, api.Errno) {
	for i, entry := range entries {
		name := entry.Name != "" && entry.Name != "." && entry.Name != ".." && len(entry.Name) <= 200 && strings.Trim(entry.Name, nameBytes) == ""
		if !name || !w.holds(entry) || i > 0 && strings.Compare(entries[i-1].Name, entry.Name) >= 0 {
			return 0, api.ErrArg
		}
	}
	return w.put("tree", "", entries), api.OK
}

// checkAll checks that the store has the same objects as w.
func (w *byWords) checkAll(t *testing.T, s *Store) {
	t.Helper()
	hasMany(t, s, len(w.kinds))
	for i, kind := range w.kinds {
		if kind == "blob" {
			isText(t, s, i+1, w.texts[i])
		} else {
			hasEntries(t, s, i+1, w.entries[i]...)
		}
	}
	for _, id := range strangeNumbers(len(w.kinds)) {
		isNothing(t, s, id)
	}
}

func TestP4_1Blob(t *testing.T) {
	s := New() // the example
	blob(t, s, "a", 1)
	blob(t, s, "b", 2)
	blob(t, s, "a", 1)
	hasMany(t, s, 2)
	blob(t, s, "b", 2)
	blob(t, s, "c", 3)
	isText(t, s, 1, "a")
	isText(t, s, 2, "b")
	isText(t, s, 3, "c")
}

func TestP4_1BlobsOfSimilarTexts(t *testing.T) {
	texts := append(samples.Strings("a\n\x00\xff", 4),
		" ", "A", "a\r\n", "\ufeffa", "ä", "a\u0308", "/", "..", "1", "blob", "tree", strings.Repeat("a", 65535), strings.Repeat("a", 65535)+"b")
	s := New()
	for range 2 {
		for i, text := range texts {
			blob(t, s, strings.Clone(text), i+1)
		}
		hasMany(t, s, len(texts))
	}
	for i, text := range texts {
		isText(t, s, i+1, text)
	}
}

func TestP4_1LimitOfTexts(t *testing.T) {
	longest := strings.Repeat("x", 65536)
	s := New()
	for _, text := range []string{longest + "x", longest + "\n", strings.Repeat("\x00", 65537), strings.Repeat("x", 1<<24)} {
		if id, e := s.Blob(text); id != 0 || e != api.ErrMany {
			t.Fatalf("a text of %d bytes: %d, error %d", len(text), id, e)
		}
		hasMany(t, s, 0)
	}
	blob(t, s, longest, 1)
	blob(t, s, longest[1:], 2)
	blob(t, s, strings.Repeat("\n", 65536), 3)
	if id, e := s.Blob(longest + "x"); id != 0 || e != api.ErrMany {
		t.Fatalf("a text that is too long, after others: %d, error %d", id, e)
	}
	blob(t, s, longest, 1)
	isText(t, s, 1, longest)
	hasMany(t, s, 3)
}

func TestP4_2Tree(t *testing.T) {
	s := New() // the examples
	blob(t, s, "x", 1)
	tree(t, s, 2, file("f", 1))
	tree(t, s, 3, dir("d", 2))
	hasEntries(t, s, 3, dir("d", 2))

	s = New()
	tree(t, s, 1)
	noTree(t, s, dir("d", 1))

	s = New()
	blob(t, s, "x", 1)
	noTree(t, s, file("b", 1), file("a", 1))
}

func TestP4_2TheEmptyTree(t *testing.T) {
	s := New()
	blob(t, s, "x", 1)
	for range 2 {
		if id, e := s.Tree(nil); id != 2 || e != api.OK {
			t.Fatalf("Tree(nil): %d, error %d", id, e)
		}
		if id, e := s.Tree([]api.Entry{}); id != 2 || e != api.OK {
			t.Fatalf("Tree of an empty list: %d, error %d", id, e)
		}
	}
	hasEntries(t, s, 2)
	noTree(t, s, dir("d", 2))
	noTree(t, s, file("d", 2))
	noTree(t, s, file("a", 1), dir("d", 2))
	noTree(t, s, dir("a", 2), file("d", 1))
	tree(t, s, 3, file("a", 1))
	tree(t, s, 4, dir("d", 3))
	hasMany(t, s, 4)
}

func TestP4_2EqualEntriesAreOneTree(t *testing.T) {
	s := filled(t)
	next := s.Many() + 1
	for _, entries := range [][]api.Entry{
		list(file("g", 1)), list(file("f", 2)), list(dir("f", 4)), list(dir("g", 4)),
		list(file("f", 1), file("g", 1)), list(file("f", 1), file("g", 2)), list(file("f", 2), file("g", 1)),
		list(dir("f", 4), file("g", 1)), list(file("f", 1), dir("g", 4)), list(file("e", 1), file("f", 1)),
		list(file("f", 1), file("g", 1), file("h", 1)), list(file("f", 1), file("h", 1)),
		list(file("fg", 1)), list(file("F", 1)), list(file("f1", 1)), list(file("f", 1), file("f1", 1)),
	} {
		tree(t, s, next, entries...)
		tree(t, s, next, slices.Clone(entries)...)
		hasEntries(t, s, next, entries...)
		next++
	}
	tree(t, s, 3)
	tree(t, s, 4, file("f", 1))
	hasMany(t, s, next-1)
}

func TestP4_2EntriesInEveryOrder(t *testing.T) {
	names := []string{"-", ".a", "0", "9", "A", "Z", "_", "a", "a-", "a.", "a0", "aA", "a_", "aa", "ab", "b"}
	s := New()
	blob(t, s, "x", 1)
	for i, a := range names {
		for k, b := range names {
			if i < k {
				tree(t, s, s.Many()+1, file(a, 1), file(b, 1))
			} else {
				noTree(t, s, file(a, 1), file(b, 1))
			}
			for m, c := range names {
				if i < k && k < m {
					tree(t, s, s.Many()+1, file(a, 1), file(b, 1), file(c, 1))
				} else {
					noTree(t, s, file(a, 1), file(b, 1), file(c, 1))
				}
			}
		}
	}
}

func TestP4_2EqualNames(t *testing.T) {
	s := filled(t)
	noTree(t, s, file("a", 1), file("a", 1))
	noTree(t, s, file("a", 1), file("a", 2))
	noTree(t, s, file("a", 1), dir("a", 4))
	noTree(t, s, dir("a", 4), file("a", 1))
	noTree(t, s, dir("a", 4), dir("a", 4))
	noTree(t, s, file("a", 1), file("b", 1), file("b", 1), file("c", 1))
	noTree(t, s, file("a", 1), file("b", 1), file("a", 1))
	hasMany(t, s, 4)
}

// namesByValidity returns strings, and whether they are valid paths of one component.
func namesByValidity() map[string]bool {
	return map[string]bool{
		"a": true, "Z": true, "README.md": true, "...": true, ".a": true, "a.": true, "..a": true, "-": true, "_": true, "-.": true, "0": true,
		strings.Repeat("a", 200): true, strings.Repeat(".", 200): true, strings.Repeat("a", 201): false, strings.Repeat("a", 1<<20): false,
		"": false, ".": false, "..": false, "/": false, "//": false, "a/": false, "/a": false, "a//b": false,
		"a/b": false, "a/b/c": false, "./a": false, "../a": false, "a/.": false, "a/..": false, strings.Repeat("a/", 19) + "a": false,
		" ": false, "a b": false, "a\n": false, "\x00": false, "a\x00": false, "*": false, "?": false, "a*": false, "**": false, "a\\b": false, "a:b": false,
		"\x80": false, "\x81": false, "a\x81": false, "\x81a": false, "\xff": false, "ä": false,
	}
}

func TestP4_2NamesOfEntries(t *testing.T) {
	for name, valid := range namesByValidity() {
		s := filled(t)
		if !valid {
			noTree(t, s, file(name, 1))
			noTree(t, s, dir(name, 4))
			continue
		}
		tree(t, s, 5, file(name, 1))
		tree(t, s, 6, dir(name, 4))
		hasEntries(t, s, 5, file(name, 1))
		hasEntries(t, s, 6, dir(name, 4))
	}
}

func TestP4_2NamesOfEveryByte(t *testing.T) {
	for i := range 256 {
		b := string([]byte{byte(i)})
		for _, name := range []string{"x" + b, b + "x", "x" + b + "x"} {
			s := filled(t)
			if strings.Contains(nameBytes, b) {
				tree(t, s, 5, file(name, 1), file(name+"y", 1))
			} else {
				noTree(t, s, file(name, 1))
				noTree(t, s, file(name, 1), file(name+"y", 1))
			}
		}
	}
}

func TestP4_2AnInvalidEntryAtEveryPlace(t *testing.T) {
	s := filled(t)
	valid := list(file("b", 1), file("d", 2), dir("f", 4), file("h", 1))
	for place := range len(valid) + 1 {
		inOrder := string("acegi"[place])
		for _, invalid := range []api.Entry{
			file("", 1), file("/", 1), dir("..", 4), file("\xff", 1), file(inOrder+"/x", 1), dir(inOrder+"/x", 4), file(inOrder+"\x00", 1),
			file(inOrder, 4), dir(inOrder, 1), file(inOrder, 3), dir(inOrder, 3), file(inOrder, 5), dir(inOrder, 5), file(inOrder, 0), dir(inOrder, -1),
		} {
			noTree(t, s, slices.Insert(slices.Clone(valid), place, invalid)...)
		}
	}
	tree(t, s, 5, valid...)
	for place := range len(valid) + 1 { // the names in order are not what is wrong
		tree(t, s, 6+place, slices.Insert(slices.Clone(valid), place, file(string("acegi"[place]), 1))...)
	}
}

func TestP4_2KindsOfEntries(t *testing.T) {
	s := filled(t)
	tree(t, s, 5, dir("d", 4))
	for id, holdable := range map[int][2]bool{1: {true, false}, 2: {true, false}, 3: {false, false}, 4: {false, true}, 5: {false, true}} {
		for i, entry := range []api.Entry{file("x", id), dir("x", id)} {
			if holdable[i] {
				tree(t, s, s.Many()+1, entry)
			} else {
				noTree(t, s, entry)
			}
		}
	}
}

func TestP4_2NumbersThatNoObjectHas(t *testing.T) {
	s := filled(t)
	for _, id := range strangeNumbers(4) {
		noTree(t, s, file("a", id))
		noTree(t, s, dir("a", id))
		noTree(t, s, file("a", 1), file("b", id), file("c", 1))
		noTree(t, s, file("a", 1), dir("b", id))
	}
	noTree(t, New(), file("a", 1))
	noTree(t, New(), dir("a", 1))
	tree(t, s, 5, file("a", 1))
}

// TestP4_2TreesWhichDifferInLargeNumbers has names whose ends could be taken for a part of a number, and the reverse.
func TestP4_2TreesWhichDifferInLargeNumbers(t *testing.T) {
	const blobs = 17000
	s := New()
	for i := range blobs {
		blob(t, s, strconv.Itoa(i), i+1)
	}
	names := []string{"a", "aa", "aaa", "a1", "a12"}
	for range 2 {
		next := blobs + 1
		for _, name := range names {
			for id := 1; id <= blobs; id++ {
				tree(t, s, next, file(name, id))
				next++
			}
		}
		for id := blobs + 1; id <= blobs*(1+len(names)); id++ {
			tree(t, s, next, dir("a", id))
			next++
		}
		hasMany(t, s, next-1)
	}
	hasEntries(t, s, blobs+225, file("a", 225))
	hasEntries(t, s, 2*blobs+1, file("aa", 1))
}

func TestP4_2PairsOfEntriesWhichDifferInLargeNumbers(t *testing.T) {
	s := New()
	for i := range 17000 {
		blob(t, s, strconv.Itoa(i), i+1)
	}
	numbers := []int{1, 12, 97, 127, 128, 129, 225, 255, 256, 257, 12513, 16383, 16384, 16385}
	for range 2 {
		next := 17001
		for _, a := range numbers {
			for _, b := range numbers {
				tree(t, s, next, file("a", a), file("b", b))
				tree(t, s, next+1, file("a", a), file("a1", b))
				tree(t, s, next+2, file("a1", a), file("a12", b))
				tree(t, s, next+3, file("a", a), file("aa", b))
				next += 4
			}
		}
		hasMany(t, s, next-1)
	}
}

func TestP4_2ManyEntries(t *testing.T) {
	s := New()
	blob(t, s, "x", 1)
	var entries []api.Entry
	for i := range 200000 {
		entries = append(entries, file(strconv.Itoa(1000000+i), 1))
	}
	tree(t, s, 2, entries...)
	tree(t, s, 3, entries[1:]...)
	tree(t, s, 2, entries...)
	hasEntries(t, s, 2, entries...)
	entries[199999].Name = entries[199998].Name
	noTree(t, s, entries...)
}

func TestP4_3TextAndEntries(t *testing.T) {
	s := filled(t)
	isText(t, s, 1, "one")
	isText(t, s, 2, "")
	hasEntries(t, s, 3)
	hasEntries(t, s, 4, file("f", 1))
	for _, id := range strangeNumbers(4) {
		isNothing(t, s, id)
	}
	hasMany(t, s, 4)
	tree(t, s, 5, file("a", 2), dir("b", 4), file("c", 1))
	hasEntries(t, s, 5, file("a", 2), dir("b", 4), file("c", 1))
	isNothing(t, s, 6)
}

func TestP4_3AListThatIsChangedAfterwards(t *testing.T) {
	s := filled(t)
	given := list(file("a", 1), dir("b", 4), file("c", 2))
	want := slices.Clone(given)
	tree(t, s, 5, given...)
	if !slices.Equal(given, want) {
		t.Fatalf("Tree changes its argument: %v", given)
	}
	given[0], given[1].Id, given[2].Name = dir("z", 9), 1, "/"
	hasEntries(t, s, 5, want...)
	tree(t, s, 5, want...)
	noTree(t, s, given...)
}

func TestP4_3AResultThatIsChangedAfterwards(t *testing.T) {
	s := filled(t)
	want := list(file("a", 1), dir("b", 4))
	tree(t, s, 5, want...)
	first, _ := s.Entries(5)
	second, _ := s.Entries(5)
	first[0], first[1].Name = file("x", 2), "y"
	if !slices.Equal(second, want) {
		t.Fatalf("two results share memory: %v", second)
	}
	_ = append(second[:1], file("z", 2))
	_ = append(first, file("z", 2))
	hasEntries(t, s, 5, want...)
	tree(t, s, 5, want...)
	empty, _ := s.Entries(3)
	_ = append(empty, file("z", 2))
	hasEntries(t, s, 3)
	hasMany(t, s, 5)
}

func TestP4_4ManyCountsObjects(t *testing.T) {
	s := New()
	hasMany(t, s, 0)
	blob(t, s, "a", 1)
	hasMany(t, s, 1)
	blob(t, s, "a", 1)
	hasMany(t, s, 1)
	tree(t, s, 2, file("f", 1))
	hasMany(t, s, 2)
	tree(t, s, 2, file("f", 1))
	hasMany(t, s, 2)
	s.Text(1)
	s.Text(7)
	s.Entries(2)
	s.Entries(7)
	hasMany(t, s, 2)
	tree(t, s, 3)
	hasMany(t, s, 3)
}

func TestP4_4NothingComesWithAnError(t *testing.T) {
	s := filled(t)
	for range 3 {
		if id, e := s.Blob(strings.Repeat("x", 65537)); id != 0 || e != api.ErrMany {
			t.Fatalf("a text that is too long: %d, error %d", id, e)
		}
		hasMany(t, s, 4)
		noTree(t, s, file("a", 1), file("b", 2), file("c", 5))
		noTree(t, s, file("a", 5))
		noTree(t, s, file("b", 1), file("a", 1))
	}
	isNothing(t, s, 5)
	tree(t, s, 5, file("a", 1), file("b", 2))
	tree(t, s, 6, file("a", 1))
	blob(t, s, strings.Repeat("x", 65536), 7)
}

func TestP4_5TheZeroStoreIsEmpty(t *testing.T) {
	for _, first := range []func(s *Store){
		func(s *Store) { blob(t, s, "x", 1) },
		func(s *Store) { tree(t, s, 1) },
	} {
		var zero Store
		hasMany(t, &zero, 0)
		for _, id := range append(strangeNumbers(0), 1) {
			isNothing(t, &zero, id)
			noTree(t, &zero, file("a", id))
			noTree(t, &zero, dir("a", id))
		}
		if id, e := zero.Blob(strings.Repeat("x", 65537)); id != 0 || e != api.ErrMany {
			t.Fatalf("a text that is too long: %d, error %d", id, e)
		}
		first(&zero)
		first(&zero)
		blob(t, &zero, "y", 2)
		tree(t, &zero, 3, file("f", 2))
		tree(t, &zero, 4, dir("d", 3))
		isText(t, &zero, 2, "y")
		hasEntries(t, &zero, 4, dir("d", 3))
		hasMany(t, &zero, 4)
	}
}

func TestP4_5NilStore(t *testing.T) {
	var s *Store
	for _, text := range []string{"", "a", strings.Repeat("x", 65536), strings.Repeat("x", 65537)} {
		if id, e := s.Blob(text); id != 0 || e != api.ErrArg {
			t.Errorf("a text of %d bytes: %d, error %d", len(text), id, e)
		}
	}
	for _, entries := range [][]api.Entry{nil, {}, list(file("a", 1)), list(dir("a", 1)), list(file("", 0)), list(file("b", -1), file("a", 1))} {
		if id, e := s.Tree(entries); id != 0 || e != api.ErrArg {
			t.Errorf("Tree(%v): %d, error %d", entries, id, e)
		}
	}
	for _, id := range append(strangeNumbers(1), 1) {
		isNothing(t, s, id)
	}
	hasMany(t, s, 0)
}

func TestP4_6KindsAreNotConfused(t *testing.T) {
	s := New()
	blob(t, s, "", 1)
	tree(t, s, 2)
	blob(t, s, "", 1)
	tree(t, s, 2)
	entries := list(file("a", 1), file("b", 1))
	tree(t, s, 3, entries...)
	blob(t, s, asBytes(entries), 4) // the very bytes by which the tree is found
	tree(t, s, 3, entries...)
	isText(t, s, 4, asBytes(entries))

	s = New()
	blob(t, s, "x", 1)
	blob(t, s, asBytes(list(file("a", 1))), 2)
	tree(t, s, 3, file("a", 1))
	hasEntries(t, s, 3, file("a", 1))
}

func TestP4_6EqualFilesAtEqualPathsHaveEqualTrees(t *testing.T) {
	s := New()
	blob(t, s, "x", 1)
	tree(t, s, 2, file("f", 1))
	tree(t, s, 3, dir("a", 2), dir("b", 2))
	tree(t, s, 4, dir("c", 3), file("d", 1))
	blob(t, s, "y", 5)
	tree(t, s, 6, file("f", 5))
	blob(t, s, "x", 1)
	tree(t, s, 2, file("f", 1))
	tree(t, s, 3, dir("a", 2), dir("b", 2))
	tree(t, s, 4, dir("c", 3), file("d", 1))
	tree(t, s, 7, dir("a", 2), dir("b", 6))
	tree(t, s, 8, dir("c", 7), file("d", 1))
	hasMany(t, s, 8)
}

func TestP4_6StoresAreIndependent(t *testing.T) {
	s, other := New(), New()
	blob(t, s, "a", 1)
	hasMany(t, other, 0)
	blob(t, other, "b", 1)
	tree(t, other, 2, file("f", 1))
	isNothing(t, s, 2)
	blob(t, s, "b", 2)
	isText(t, s, 1, "a")
	isText(t, other, 1, "b")
}

// randomEntries returns a list that is often, but not always, valid in a store with many objects.
func randomEntries(below func(n int) int, many int, kinds []string) []api.Entry {
	names := []string{"a", "a1", "a12", "ab", "b", "b1", "c", "aa"}
	if below(2) == 0 {
		slices.Sort(names)
	}
	var entries []api.Entry
	for _, name := range names {
		if below(3) > 0 || many == 0 {
			continue
		}
		id := 1 + below(many+below(2))
		isTree := id <= len(kinds) && kinds[id-1] == "tree"
		entries = append(entries, api.Entry{Name: name, Dir: isTree != (below(20) == 0), Id: id})
	}
	return entries
}

func TestP4_6RandomCallsFollowTheWords(t *testing.T) {
	failed, found := 0, 0
	for seed := range uint32(60) {
		s, w, below, word := New(), &byWords{}, samples.Below(seed), samples.Words(seed, "ab")
		for call := range 300 {
			many := s.Many()
			var id, want int
			var e, wantE api.Errno
			if below(4) == 0 {
				text := word(3)
				id, e = s.Blob(text)
				want, wantE = w.blob(text)
			} else {
				entries := randomEntries(below, many, w.kinds)
				id, e = s.Tree(entries)
				want, wantE = w.tree(entries)
			}
			if id != want || e != wantE {
				t.Fatalf("seed %d, call %d: %d, error %d; want %d, error %d", seed, call, id, e, want, wantE)
			}
			switch {
			case e != api.OK:
				failed++
			case s.Many() == many:
				found++
			}
			if call%20 == 0 {
				w.checkAll(t, s) // the objects of all numbers, also the early ones, are still the same
			}
		}
		w.checkAll(t, s)
	}
	if failed < 1000 || found < 1000 {
		t.Errorf("%d errors and %d known objects among the calls are too few", failed, found)
	}
}

// TestP4_6AllSmallLists gives all lists of up to three entries of few names, numbers and kinds to a store.
func TestP4_6AllSmallLists(t *testing.T) {
	var entries []api.Entry
	for _, name := range []string{"a", "aa", "b", ""} {
		for id := range 6 {
			entries = append(entries, file(name, id), dir(name, id))
		}
	}
	s, w := filled(t), &byWords{}
	for _, text := range []string{"one", ""} {
		w.blob(text)
	}
	w.tree(nil)
	w.tree(list(file("f", 1)))
	check := func(given ...api.Entry) {
		id, e := s.Tree(given)
		if want, wantE := w.tree(given); id != want || e != wantE {
			t.Fatalf("Tree(%v): %d, error %d; want %d, error %d", given, id, e, want, wantE)
		}
	}
	for _, a := range entries {
		check(a)
		for _, b := range entries {
			check(a, b)
			for _, c := range entries {
				check(a, b, c)
			}
		}
	}
	w.checkAll(t, s)
}

func TestP1CallsEndForAllArguments(t *testing.T) {
	var zero Store
	for _, s := range []*Store{nil, &zero, New(), filled(t)} {
		for name := range namesByValidity() {
			s.Blob(name)
			for _, id := range append(strangeNumbers(s.Many()), 1, 2, 3, 4) {
				s.Text(id)
				s.Entries(id)
				s.Tree(list(file(name, id)))
				s.Tree(list(dir(name, id), file(name, id), file("", 0)))
			}
		}
	}
}

func TestP1TreesMayBeDeeperThanPaths(t *testing.T) {
	s := New()
	blob(t, s, "x", 1)
	tree(t, s, 2, file("f", 1))
	for id := 3; id < 30000; id++ {
		tree(t, s, id, dir("d", id-1))
	}
	hasEntries(t, s, 29999, dir("d", 29998))
}

func TestP1VeryLongArguments(t *testing.T) {
	s := filled(t)
	long := strings.Repeat("x", 1<<26)
	if id, e := s.Blob(long); id != 0 || e != api.ErrMany {
		t.Errorf("Blob of 2^26 bytes: %d, error %d", id, e)
	}
	noTree(t, s, file(long, 1))
	noTree(t, s, file(long, 1), file(long+"x", 1))
	noTree(t, s, slices.Repeat(list(file("a", 1)), 1<<20)...)
}
