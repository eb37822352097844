package packages

import (
	"mainline/api"
)

// variants returns the variants of a target without problems, one for each platform.
func (s *scope) variants(target api.Target) []api.Variant {
	common := api.Variant{
		Label: s.labels + target.Name,
		Kind:  target.Kind,
		Line:  target.Line,
		Cost:  target.Cost,
		Retry: target.Retry,
	}
	var all []api.Variant
	for _, platform := range s.platforms {
		v := common
		v.Platform = platform
		srcs := permitted(target.Srcs, platform)
		v.Files = s.filesOf(srcs)
		v.Outs = s.pathsOf(target.Outs)
		v.Deps = append(permitted(target.Deps, platform), s.generatorsOf(srcs)...)
		v.Visible = texts(target.Visible)
		all = append(all, v)
	}
	return all
}

// permitted returns the items that are not limited to another platform.
func permitted(items []api.Item, platform string) []api.Item {
	var left []api.Item
	for _, item := range items {
		if item.Platform == "" || item.Platform == platform {
			left = append(left, item)
		}
	}
	return left
}

// generatorsOf returns the dependencies on the targets that write items of Srcs without problems.
func (s *scope) generatorsOf(srcs []api.Item) []api.Item {
	var deps []api.Item
	for _, item := range srcs {
		if !item.Glob && !s.isSource(item.Text) {
			deps = append(deps, api.Item{Text: ":" + s.outs[item.Text].target.Name, Line: item.Line})
		}
	}
	return deps
}

// pathsOf returns the paths in the tree of items that are names in the package.
func (s *scope) pathsOf(items []api.Item) []string {
	var all []string
	for _, item := range items {
		all = append(all, s.pathOf(item.Text))
	}
	return all
}

func texts(items []api.Item) []string {
	var all []string
	for _, item := range items {
		all = append(all, item.Text)
	}
	return all
}
