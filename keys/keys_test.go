package keys

import (
	"math"
	"slices"
	"strings"
	"testing"

	"mainline/api"
	"mainline/samples"
)

func labelled(label string) api.Variant {
	return api.Variant{Label: label}
}

// full returns a variant all of whose fields are set.
func full() api.Variant {
	return api.Variant{
		Label:    "//a:b",
		Platform: "linux",
		Kind:     api.Gen,
		Line:     7,
		Files:    []api.File{{Path: "a/x", Id: 3}, {Path: "a/y", Id: 4}},
		Outs:     []string{"o", "p"},
		Deps:     []api.Item{{Text: ":c", Platform: "linux", Line: 8}},
		Visible:  []string{"public"},
		Cost:     2,
		Retry:    1,
	}
}

func TestP14_1Example(t *testing.T) {
	table, a, b := New(), labelled("//:a"), labelled("//:b")
	if table.Many() != 0 {
		t.Errorf("%d inputs of a new table", table.Many())
	}
	for i, c := range []struct {
		v    api.Variant
		deps []int
		want int
	}{
		{a, nil, 1},
		{b, []int{1, 1}, 2},
		{a, []int{7}, 3},
		{b, []int{1}, 2},
	} {
		if number := table.Key(c.v, c.deps); number != c.want {
			t.Errorf("call %d: %d; want %d", i, number, c.want)
		}
	}
	if table.Many() != 3 {
		t.Errorf("%d inputs; want 3", table.Many())
	}
}

// TestP14_1EachFieldOfTheCoreDistinguishes changes one field after the other, and each in several ways.
func TestP14_1EachFieldOfTheCoreDistinguishes(t *testing.T) {
	table := New()
	if number := table.Key(full(), []int{1, 2}); number != 1 {
		t.Fatalf("the first number is %d", number)
	}
	for i, change := range []func(v *api.Variant){
		func(v *api.Variant) { v.Label = "//a:c" },
		func(v *api.Variant) { v.Label = "" },
		func(v *api.Variant) { v.Label, v.Platform = "//a:bl", "inux" },
		func(v *api.Variant) { v.Label, v.Platform = v.Platform, v.Label },
		func(v *api.Variant) { v.Platform = "any" },
		func(v *api.Variant) { v.Platform = "" },
		func(v *api.Variant) { v.Kind = api.Lib },
		func(v *api.Variant) { v.Kind = -api.Gen },
		func(v *api.Variant) { v.Kind, v.Cost = v.Cost, v.Kind },
		func(v *api.Variant) { v.Files = nil },
		func(v *api.Variant) { v.Files = v.Files[:1] },
		func(v *api.Variant) { v.Files = append(v.Files, v.Files[1]) },
		func(v *api.Variant) { slices.Reverse(v.Files) },
		func(v *api.Variant) { v.Files[0].Path = "a/z" },
		func(v *api.Variant) { v.Files[1].Id = 5 },
		func(v *api.Variant) { v.Files[1].Id = -4 },
		func(v *api.Variant) { v.Files[0].Id, v.Files[1].Id = 4, 3 },
		func(v *api.Variant) { v.Outs = nil },
		func(v *api.Variant) { v.Outs = v.Outs[1:] },
		func(v *api.Variant) { v.Outs = append(v.Outs, "") },
		func(v *api.Variant) { slices.Reverse(v.Outs) },
		func(v *api.Variant) { v.Outs = []string{"op"} },
		func(v *api.Variant) { v.Outs = []string{"op", ""} },
		func(v *api.Variant) { v.Cost = 3 },
		func(v *api.Variant) { v.Cost = 0 },
		func(v *api.Variant) { v.Cost = math.MinInt },
		func(v *api.Variant) { v.Cost = 2 + 1<<32 },
		func(v *api.Variant) { v.Cost, v.Retry = v.Retry, v.Cost },
		func(v *api.Variant) { v.Retry = 0 },
		func(v *api.Variant) { v.Retry = -1 },
	} {
		v := full()
		change(&v)
		for range 2 {
			if number := table.Key(v, []int{1, 2}); number != i+2 {
				t.Errorf("change %d: %d; want %d", i, number, i+2)
			}
		}
		isInput(t, table, i+2, v, 1, 2)
	}
	if number := table.Key(full(), []int{1, 2}); number != 1 {
		t.Errorf("the first input is %d", number)
	}
}

func TestP14_1NothingElseDistinguishes(t *testing.T) {
	table := New()
	table.Key(full(), nil)
	for i, change := range []func(v *api.Variant){
		func(v *api.Variant) { v.Line = 0 },
		func(v *api.Variant) { v.Line = math.MinInt },
		func(v *api.Variant) { v.Visible = nil },
		func(v *api.Variant) { v.Visible = []string{"//...", ""} },
		func(v *api.Variant) { v.Deps = nil },
		func(v *api.Variant) { v.Deps = append(v.Deps, api.Item{Text: ":d"}) },
		func(v *api.Variant) { v.Line, v.Visible, v.Deps = 1, []string{}, []api.Item{{}} },
	} {
		v := full()
		change(&v)
		if number := table.Key(v, nil); number != 1 || table.Many() != 1 {
			t.Errorf("change %d: %d of %d", i, number, table.Many())
		}
	}
}

func TestP14_1ListsOfNumbers(t *testing.T) {
	table, v := New(), full()
	for _, c := range []struct {
		deps []int
		want int
	}{
		{nil, 1},
		{[]int{}, 1},
		{[]int{0}, 2},
		{[]int{0, 0, 0}, 2},
		{[]int{3, 1, 2}, 3},
		{[]int{1, 2, 3}, 3},
		{[]int{2, 1, 3, 1, 2, 3}, 3},
		{[]int{1, 2}, 4},
		{[]int{12}, 5},
		{[]int{-1}, 6},
		{[]int{1}, 7},
		{[]int{1, -1}, 8},
		{[]int{-1, 1, -1}, 8},
		{[]int{math.MaxInt, math.MinInt}, 9},
		{[]int{math.MinInt, math.MaxInt}, 9},
		{[]int{math.MaxInt}, 10},
		{[]int{math.MinInt}, 11},
		{[]int{1 << 32}, 12},
		{[]int{127, 128, 16384}, 13},
	} {
		if number := table.Key(v, c.deps); number != c.want {
			t.Errorf("%v: %d; want %d", c.deps, number, c.want)
		}
	}
	isInput(t, table, 2, v, 0)
	isInput(t, table, 3, v, 1, 2, 3)
	isInput(t, table, 8, v, -1, 1)
	isInput(t, table, 9, v, math.MinInt, math.MaxInt)
}

func TestP14_1NilAndEmptyListsDoNotDiffer(t *testing.T) {
	table := New()
	for _, v := range []api.Variant{{}, {Files: []api.File{}}, {Outs: []string{}}, {Files: []api.File{}, Outs: []string{}, Deps: []api.Item{}, Visible: []string{}}} {
		for _, deps := range [][]int{nil, {}} {
			if number := table.Key(v, deps); number != 1 {
				t.Errorf("%#v, %#v: %d", v, deps, number)
			}
		}
	}
}

// TestP14_1BoundariesOfStrings has strings that consist of bytes with which lengths and numbers are written.
func TestP14_1BoundariesOfStrings(t *testing.T) {
	b := newBoth(t)
	short := samples.Strings("\x00\x01\x02", 2)
	for _, first := range short {
		for _, second := range short {
			b.key(api.Variant{Label: first, Platform: second}, nil)
			b.key(api.Variant{Label: first, Outs: []string{second}}, nil)
			b.key(api.Variant{Outs: []string{first, second}}, nil)
			b.key(api.Variant{Outs: []string{first + second}}, nil)
			b.key(api.Variant{Platform: first, Files: []api.File{{Path: second}}}, nil)
			b.key(api.Variant{Files: []api.File{{Path: first}, {Path: second, Id: 1}}}, nil)
			b.key(api.Variant{Files: []api.File{{Path: first, Id: -1}}, Outs: []string{second}}, nil)
		}
	}
	b.areSame()
}

func TestP14_1BoundariesOfNumbers(t *testing.T) {
	b := newBoth(t)
	numbers := []int{0, 1, -1, 63, 64, -64, -65, 8191, 8192, math.MaxInt, math.MinInt}
	for _, first := range numbers {
		for _, second := range numbers {
			b.key(api.Variant{Kind: first, Cost: second}, nil)
			b.key(api.Variant{Cost: first, Retry: second}, nil)
			b.key(api.Variant{Retry: first}, []int{second})
			b.key(api.Variant{}, []int{first, second})
			b.key(api.Variant{Files: []api.File{{Id: first}, {Id: second}}}, nil)
			b.key(api.Variant{Files: []api.File{{Id: first}}}, []int{second})
		}
	}
	b.areSame()
}

func TestP14_1LongTextsAndLists(t *testing.T) {
	table, long := New(), strings.Repeat("x", 1<<20)
	v := labelled(long)
	var deps []int
	for i := range 1 << 18 {
		deps = append(deps, -i, i)
		v.Files = append(v.Files, api.File{Path: long[:i%9], Id: i})
		v.Outs = append(v.Outs, long[:i%7])
	}
	other := v
	other.Outs = slices.Concat(v.Outs[1:], []string{"y"})
	for i, c := range []struct {
		v    api.Variant
		deps []int
		want int
	}{{v, deps, 1}, {v, deps[:len(deps)-1], 2}, {other, deps, 3}, {v, slices.Concat(deps, deps), 1}, {labelled(long + "x"), nil, 4}} {
		if number := table.Key(c.v, c.deps); number != c.want {
			t.Errorf("call %d: %d; want %d", i, number, c.want)
		}
	}
}

func TestP14_2Example(t *testing.T) {
	table, a, b := New(), labelled("//:a"), labelled("//:b")
	b.Line, b.Visible, b.Deps = 3, []string{"public"}, []api.Item{{Text: ":a"}}
	table.Key(a, nil)
	table.Key(b, []int{1, 1})
	table.Key(a, []int{7})
	isInput(t, table, 1, a)
	isInput(t, table, 2, b, 1)
	isInput(t, table, 3, a, 7)
	for range 2 { // Parts adds nothing
		for _, key := range noKeys(3) {
			isNone(t, table, key)
		}
		if table.Many() != 3 {
			t.Errorf("%d inputs; want 3", table.Many())
		}
	}
}

func TestP14_2AllFieldsOfTheCore(t *testing.T) {
	table := New()
	table.Key(full(), []int{5, -5})
	isInput(t, table, 1, full(), -5, 5)
	core, deps, _ := table.Parts(1)
	if table.Key(core, deps) != 1 || table.Many() != 1 {
		t.Errorf("the parts of an input are another one: %v, %v", core, deps)
	}
}

func TestP14_2NumbersRemain(t *testing.T) {
	b := newBoth(t)
	for i := range 300 {
		v := full()
		v.Retry = i % 150
		b.key(v, []int{i % 50, i / 200})
		if i%50 == 0 {
			b.areSame()
		}
	}
	b.areSame()
}

func TestP14_4NilTable(t *testing.T) {
	var table *Table
	for range 2 {
		if number := table.Key(full(), []int{1}); number != 0 {
			t.Errorf("Key: %d", number)
		}
		if many := table.Many(); many != 0 {
			t.Errorf("Many: %d", many)
		}
		for _, key := range append(noKeys(0), 1) {
			isNone(t, table, key)
		}
		for many := range 4 {
			if numbers := table.All(make([]api.Node, many)); !slices.Equal(numbers, make([]int, many)) {
				t.Errorf("All of %d nodes: %v", many, numbers)
			}
		}
		if numbers := table.All(nil); len(numbers) != 0 {
			t.Errorf("All of nothing: %v", numbers)
		}
	}
}

func TestP14_4ZeroTable(t *testing.T) {
	var empty Table
	if empty.Many() != 0 {
		t.Errorf("Many: %d", empty.Many())
	}
	for _, key := range append(noKeys(0), 1) {
		isNone(t, &empty, key)
	}
	b := both{t: t, table: new(Table), words: new(byWords)}
	b.key(full(), nil)
	b.key(labelled("//:a"), []int{1})
	b.areSame()
	b = both{t: t, table: new(Table), words: new(byWords)}
	b.all([]api.Node{{Variant: full(), Deps: []int{1}}, {Variant: labelled("//:a")}})
	b.areSame()
}

// overwriteFiles and overwriteStrings change all that lists hold, and what lies behind them in their memory.
func overwriteFiles(l []api.File) {
	for i := range l[:cap(l)] {
		l[:cap(l)][i] = api.File{Path: "changed", Id: -9}
	}
}

func overwriteStrings(l []string) {
	for i := range l[:cap(l)] {
		l[:cap(l)][i] = "changed"
	}
}

func overwriteNumbers(l []int) {
	for i := range l[:cap(l)] {
		l[:cap(l)][i] = -9
	}
}

func TestR3TablesShareNoMemory(t *testing.T) {
	table, v, deps := New(), full(), []int{4, 2, 4, 1}
	table.Key(v, deps)
	overwriteFiles(v.Files)
	overwriteStrings(v.Outs)
	overwriteNumbers(deps)
	isInput(t, table, 1, full(), 1, 2, 4)
	for range 2 {
		core, list, _ := table.Parts(1)
		overwriteFiles(core.Files)
		overwriteStrings(core.Outs)
		overwriteNumbers(list)
		isInput(t, table, 1, full(), 1, 2, 4)
	}
	if number := table.Key(full(), []int{1, 2, 4}); number != 1 {
		t.Errorf("the input has the number %d", number)
	}
	nodes := []api.Node{{Variant: full()}, {Variant: full(), Deps: []int{0, 0}}}
	numbers := table.All(nodes)
	overwriteNumbers(numbers)
	overwriteFiles(nodes[0].Variant.Files)
	overwriteStrings(nodes[0].Variant.Outs)
	if again := table.All([]api.Node{{Variant: full()}, {Variant: full(), Deps: []int{0}}}); !slices.Equal(again, []int{2, 3}) {
		t.Errorf("All: %v", again)
	}
	isInput(t, table, 2, full())
	isInput(t, table, 3, full(), 2)
}

func TestR3ArgumentsAreNotModified(t *testing.T) {
	table, v := New(), full()
	deps := make([]int, 4, 6)
	copy(deps, []int{4, 2, 4, 1})
	copy(deps[:6][4:], []int{8, 8})
	table.Key(v, deps)
	if !slices.Equal(deps[:6], []int{4, 2, 4, 1, 8, 8}) {
		t.Errorf("the numbers are %v", deps[:6])
	}
	isSameVariant(t, v, full())
	nodes := []api.Node{{Variant: full(), Deps: []int{2, 1, 2}}, {Variant: full(), Path: "p"}, {Variant: full(), Deps: []int{1, 7}}}
	table.All(nodes)
	for _, node := range nodes {
		isSameVariant(t, node.Variant, full())
	}
	if !slices.Equal(nodes[0].Deps, []int{2, 1, 2}) || len(nodes[1].Deps) != 0 || nodes[1].Path != "p" || !slices.Equal(nodes[2].Deps, []int{1, 7}) {
		t.Errorf("the nodes are %v", nodes)
	}
}
