package merge

import (
	"slices"

	"mainline/api"
	"mainline/lines"
	"mainline/paths"
	"mainline/store"
)

// merger joins two sides. A file of base that both of them have as it was needs no attention: since it stands in both trees, no outcome can have its path, or a path above or below it.
type merger struct {
	store       *store.Store
	left, right side
	changed     []api.File // the files of base that a side has changed, in order
}

func newMerger(s *store.Store, left, right side) merger {
	m := merger{store: s, left: left, right: right}
	for _, its := range []side{left, right} {
		for path, delta := range its.changed {
			m.changed = append(m.changed, api.File{Path: path, Id: delta.Old})
		}
	}
	m.changed = sortedOnce(m.changed, isFileBefore)
	return m
}

// outcomes returns the outcomes of all files that a side has changed or added, in order, each once, and all conflicts.
func (m merger) outcomes() ([]api.File, []api.Conflict) {
	changed, conflicts := gather(m.changed, m.outcomeOf)
	outcomes := sortedOnce(slices.Concat(changed, m.left.added, m.right.added), isFileBefore)
	conflicts = append(conflicts, collisions(outcomes)...)
	return outcomes, sortedOnce(conflicts, isConflictBefore)
}

// gather returns the outcomes of all files that have one, and the conflicts of the others.
func gather(files []api.File, outcomeOf func(api.File) (api.File, []api.Conflict)) ([]api.File, []api.Conflict) {
	var outcomes []api.File
	var conflicts []api.Conflict
	for _, file := range files {
		outcome, contradictions := outcomeOf(file)
		if outcome.Id != nothing {
			outcomes = append(outcomes, outcome)
		}
		conflicts = append(conflicts, contradictions...)
	}
	return outcomes, conflicts
}

// outcomeOf returns what becomes of a file of base: the file with the number nothing if it is gone, or if there are conflicts.
func (m merger) outcomeOf(file api.File) (api.File, []api.Conflict) {
	left, inLeft := m.left.goalOf(file)
	right, inRight := m.right.goalOf(file)
	switch {
	case !inLeft && (!inRight || right == file) || !inRight && left == file:
		return api.File{}, nil
	case !inLeft || !inRight:
		return api.File{}, conflictAt(file.Path)
	}
	path, agreed := joined(file.Path, left.Path, right.Path)
	if !agreed { // both have renamed it, so that its contents are the same everywhere
		return api.File{}, conflictAt(file.Path)
	}
	id, conflicts := m.joinedContents(file, left, right)
	return api.File{Path: path, Id: id}, conflicts
}

// joinedContents returns the number of what the contents of a file become, or the conflicts in its text.
func (m merger) joinedContents(file, left, right api.File) (int, []api.Conflict) {
	if id, agreed := joined(file.Id, left.Id, right.Id); agreed {
		return id, nil
	}
	text, spans := lines.Merge(m.textOf(file), m.textOf(left), m.textOf(right))
	if len(spans) > 0 {
		var conflicts []api.Conflict
		for _, span := range spans {
			conflicts = append(conflicts, api.Conflict{Path: file.Path, From: span.From, To: span.To})
		}
		return nothing, conflicts
	}
	id, e := m.store.Blob(text)
	if e != api.OK { // the text is too long, although neither side's is
		return nothing, conflictAt(file.Path)
	}
	return id, nil
}

func (m merger) textOf(file api.File) string {
	text, _ := m.store.Text(file.Id)
	return text
}

// joined returns what a value of base becomes by the changes of both sides, or false if they change it differently.
func joined[E comparable](base, left, right E) (E, bool) {
	switch {
	case left == right, right == base:
		return left, true
	case left == base:
		return right, true
	}
	var none E
	return none, false
}

// collisions returns the conflicts between outcomes, which are in order, each once.
func collisions(outcomes []api.File) []api.Conflict {
	var conflicts []api.Conflict
	upper := 0 // the last outcome that lies below no other one: all that lie below it follow it at once
	for i := 1; i < len(outcomes); i++ {
		path, above := outcomes[i].Path, outcomes[upper].Path
		isBelow := path != above && paths.Under(path, above)
		if isBelow || path == outcomes[i-1].Path {
			conflicts = append(conflicts, conflictAt(path)...)
		}
		if !isBelow {
			upper = i
		}
	}
	return conflicts
}

// sortedOnce returns the elements of a list, which it may use up, in order, each once.
func sortedOnce[E comparable](list []E, isBefore func(a, b E) bool) []E {
	slices.SortFunc(list, func(a, b E) int {
		switch {
		case isBefore(a, b):
			return -1
		case isBefore(b, a):
			return 1
		}
		return 0
	})
	return slices.Compact(list)
}

func isFileBefore(a, b api.File) bool {
	if a.Path != b.Path {
		return paths.Less(a.Path, b.Path)
	}
	return a.Id < b.Id
}

func isConflictBefore(a, b api.Conflict) bool {
	switch {
	case a.Path != b.Path:
		return paths.Less(a.Path, b.Path)
	case a.From != b.From:
		return a.From < b.From
	}
	return a.To < b.To
}
