package packages

import (
	"slices"

	"mainline/api"
	"mainline/paths"
)

// rule is a row of a table of rules: the problem of the items for which it is broken.
type rule struct {
	problem api.Errno
	broken  func(item *api.Item) bool
}

// outRules returns the rules for the items of Outs of a target.
func (s *scope) outRules(target *api.Target) []rule {
	return []rule{
		{api.ErrPath, isMisspelt},
		{api.ErrKind, func(*api.Item) bool { return target.Kind != api.Gen }},
		{api.ErrExists, func(item *api.Item) bool { return s.isTaken(item.Text) }},
		{api.ErrTwice, func(item *api.Item) bool { return s.outs[item.Text].item != item }},
	}
}

// sourceRules returns the rules for the items of Srcs.
func (s *scope) sourceRules() []rule {
	return []rule{
		{api.ErrPlatform, s.isForeign},
		{api.ErrPath, isMisspelt},
		{api.ErrSource, s.isMissing},
	}
}

// dependencyRules returns the rules for the items of Deps.
func (s *scope) dependencyRules() []rule {
	return []rule{
		{api.ErrPlatform, s.isForeign},
	}
}

// isMisspelt tells whether the text of an item is neither a path nor, for a Glob, a pattern.
func isMisspelt(item *api.Item) bool {
	if item.Glob {
		return !paths.ValidPattern(item.Text)
	}
	return !paths.Valid(item.Text)
}

// isForeign tells whether an item is limited to a platform that the package has not.
func (s *scope) isForeign(item *api.Item) bool {
	return item.Platform != "" && !slices.Contains(s.platforms, item.Platform)
}

// isMissing tells whether an item of Srcs names a file that is neither there nor generated.
func (s *scope) isMissing(item *api.Item) bool {
	return !item.Glob && !s.isSource(item.Text) && !s.isGenerated(item.Text)
}

// problemOf returns the problem of the first rule that is broken for an item, or OK.
func problemOf(item *api.Item, rules []rule) api.Errno {
	for _, r := range rules {
		if r.broken(item) {
			return r.problem
		}
	}
	return api.OK
}

// checked returns a target without the items that have problems, which it reports.
func (s *scope) checked(target *api.Target, report func(line int, kind api.Errno)) api.Target {
	flawless := *target
	flawless.Outs = sift(target.Outs, s.outRules(target), report)
	flawless.Srcs = sift(target.Srcs, s.sourceRules(), report)
	flawless.Deps = sift(target.Deps, s.dependencyRules(), report)
	return flawless
}

// sift returns the items without problems, and reports the problems of the others.
func sift(items []api.Item, rules []rule, report func(line int, kind api.Errno)) []api.Item {
	var flawless []api.Item
	for i := range items {
		problem := problemOf(&items[i], rules)
		if problem == api.OK {
			flawless = append(flawless, items[i])
		} else {
			report(items[i].Line, problem)
		}
	}
	return flawless
}
