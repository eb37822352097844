package tree

import (
	"cmp"
	"slices"

	"mainline/api"
	"mainline/paths"
	"mainline/store"
)

// branch is a directory of a tree that changes, with all directories above it, from the root on. Each of them comes into the store when it is closed, since its number depends on all that is below it.
type branch struct {
	store *store.Store
	open  []*directory
}

// directory is a directory whose entries may still change.
type directory struct {
	name    string
	entries []api.Entry
}

// openRoot returns the branch that consists of the root alone.
func openRoot(s *store.Store, root int) *branch {
	entries, _ := s.Entries(root)
	return &branch{store: s, open: []*directory{{entries: entries}}}
}

func (b *branch) deepest() *directory {
	return b.open[len(b.open)-1]
}

// moveTo closes the directories that are not above this path, or at it, and opens the others.
func (b *branch) moveTo(path string) {
	names := paths.Parts(path)
	common := 0
	for common < len(names) && common+1 < len(b.open) && b.open[common+1].name == names[common] {
		common++
	}
	for len(b.open) > common+1 {
		b.closeDeepest()
	}
	for _, name := range names[common:] {
		b.openBelow(name)
	}
}

// openBelow opens a directory of the deepest one, which is empty if it does not exist yet.
func (b *branch) openBelow(name string) {
	opened := &directory{name: name}
	if place, found := search(b.deepest().entries, name, nameOf); found {
		opened.entries, _ = b.store.Entries(b.deepest().entries[place].Id)
	}
	b.open = append(b.open, opened)
}

// closeDeepest closes the deepest directory, which is not the root: the one above it gets its new tree, or loses it if it is empty.
func (b *branch) closeDeepest() {
	closed := b.deepest()
	b.open = b.open[:len(b.open)-1]
	if len(closed.entries) == 0 {
		b.deepest().unset(closed.name)
		return
	}
	b.deepest().set(api.Entry{Name: closed.name, Dir: true, Id: b.numberOf(closed)})
}

// closeRoot closes all directories and returns the number of the root.
func (b *branch) closeRoot() int {
	b.moveTo("")
	return b.numberOf(b.deepest())
}

// numberOf returns the number of the tree with the entries of a directory; they are always valid, as are the names and numbers that it gets.
func (b *branch) numberOf(d *directory) int {
	id, _ := b.store.Tree(d.entries)
	return id
}

// set gives the directory an entry, in the place of the one of this name, if there is one.
func (d *directory) set(entry api.Entry) {
	place, found := search(d.entries, entry.Name, nameOf)
	if found {
		d.entries[place] = entry
		return
	}
	d.entries = slices.Insert(d.entries, place, entry)
}

// unset takes the entry of this name away, if there is one.
func (d *directory) unset(name string) {
	if place, found := search(d.entries, name, nameOf); found {
		d.entries = slices.Delete(d.entries, place, place+1)
	}
}

func nameOf(entry api.Entry) string {
	return entry.Name
}

// search returns the place of the element with this key in a list in increasing order of keys, and true; or the place where it would be, and false.
func search[E any, K cmp.Ordered](list []E, key K, keyOf func(E) K) (int, bool) {
	low, high := 0, len(list)
	for low < high {
		middle := low + (high-low)/2
		if keyOf(list[middle]) < key {
			low = middle + 1
		} else {
			high = middle
		}
	}
	return low, low < len(list) && keyOf(list[low]) == key
}
