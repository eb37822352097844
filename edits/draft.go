package edits

import (
	"maps"
	"slices"

	"mainline/api"
	"mainline/paths"
	"mainline/store"
)

// draft is a tree that edits change. Its directories come into the store only when it is finished: a large directory that many edits change would otherwise be there once for each of them.
type draft struct {
	store *store.Store
	root  *node
}

// node is a file or a directory of a draft. A directory is opened when an edit leads into it, so that the others cost nothing.
type node struct {
	isDirectory bool
	id          int              // of the contents of a file, or of a directory as it was before it was opened
	below       map[string]*node // of an open directory: what it has, by names
}

// newDraft returns the draft with the files of root, which is open.
func newDraft(s *store.Store, root int) *draft {
	d := &draft{store: s, root: &node{isDirectory: true, id: root}}
	d.open(d.root)
	return d
}

// open opens a directory, if it is not open yet.
func (d *draft) open(dir *node) {
	if dir.below != nil {
		return
	}
	dir.below = make(map[string]*node)
	entries, _ := d.store.Entries(dir.id)
	for _, entry := range entries {
		dir.below[entry.Name] = &node{isDirectory: entry.Dir, id: entry.Id}
	}
}

// write applies an edit of the kind Write.
func (d *draft) write(edit api.Edit) api.Errno {
	if !paths.Valid(edit.Path) {
		return api.ErrPath
	}
	id, e := d.store.Blob(edit.Text)
	if e != api.OK {
		return e
	}
	if _, e := d.find(edit.Path); e == api.ErrKind {
		return e
	}
	d.put(edit.Path, id)
	return api.OK
}

// delete applies an edit of the kind Delete.
func (d *draft) delete(edit api.Edit) api.Errno {
	_, e := d.take(edit.Path)
	return e
}

// move applies an edit of the kind Move.
func (d *draft) move(edit api.Edit) api.Errno {
	id, e := d.take(edit.Path)
	switch {
	case e != api.OK:
		return e
	case !paths.Valid(edit.To):
		return api.ErrPath
	case edit.To == edit.Path: // find does not see this file any more
		return api.ErrExists
	}
	switch _, e := d.find(edit.To); e {
	case api.OK:
		return api.ErrExists
	case api.ErrKind:
		return e
	}
	d.put(edit.To, id)
	return api.OK
}

// take removes a file, and returns the number of its contents.
func (d *draft) take(path string) (int, api.Errno) {
	if !paths.Valid(path) {
		return 0, api.ErrPath
	}
	id, e := d.find(path)
	if e == api.OK {
		d.root.remove(paths.Parts(path))
	}
	return id, e
}

// find returns the number of the contents of the file with this valid path: ErrKind says that it is a directory or obstructed, ErrMissing that there is nothing.
func (d *draft) find(path string) (int, api.Errno) {
	reached := d.root
	for _, name := range paths.Parts(path) {
		if !reached.isDirectory {
			return 0, api.ErrKind
		}
		d.open(reached)
		next, known := reached.below[name]
		if !known {
			return 0, api.ErrMissing
		}
		reached = next
	}
	if reached.isDirectory {
		return 0, api.ErrKind
	}
	return reached.id, api.OK
}

// put gives a file, which is neither a directory nor obstructed, its contents. Directories that are missing are made.
func (d *draft) put(path string, id int) {
	dir := d.root
	for _, name := range paths.Parts(paths.Dir(path)) {
		next, known := dir.below[name]
		if !known {
			next = &node{isDirectory: true}
			dir.below[name] = next
		}
		d.open(next)
		dir = next
	}
	dir.below[paths.Base(path)] = &node{id: id}
}

// remove removes the file to which the names lead from an open directory, and the directories that become empty by this: as in a store, there is a file below every directory but the root.
func (dir *node) remove(names []string) {
	next := dir.below[names[0]]
	if len(names) > 1 {
		next.remove(names[1:])
	}
	if len(next.below) == 0 {
		delete(dir.below, names[0])
	}
}

// finish returns the number of the tree that the draft has become.
func (d *draft) finish() int {
	return d.numberOf(d.root)
}

// numberOf returns the number of a file's contents, or of a directory's tree, which comes into the store after those below it.
func (d *draft) numberOf(n *node) int {
	if n.below == nil {
		return n.id
	}
	var entries []api.Entry
	for _, name := range slices.Sorted(maps.Keys(n.below)) {
		entry := n.below[name]
		entries = append(entries, api.Entry{Name: name, Dir: entry.isDirectory, Id: d.numberOf(entry)})
	}
	id, _ := d.store.Tree(entries)
	return id
}
