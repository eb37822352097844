package syntax

import (
	"slices"

	"mainline/api"
)

func rightPlatforms(platforms []api.Item) bool {
	return every(platforms, rightPlatform) && distinct(platforms, bare)
}

func rightTargets(targets []api.Target) bool {
	return every(targets, rightTarget) && distinct(targets, func(t api.Target) string { return t.Name })
}

// every tells whether all elements of a list fulfil a condition.
func every[T any](list []T, fulfils func(T) bool) bool {
	return !slices.ContainsFunc(list, func(x T) bool { return !fulfils(x) })
}

// distinct tells whether all elements of a list have different names.
func distinct[T any](list []T, name func(T) string) bool {
	names := map[string]bool{}
	for _, x := range list {
		names[name(x)] = true
	}
	return len(names) == len(list)
}

func rightTarget(t api.Target) bool {
	return isWord(t.Name) && rightKind(t) && rightNumbers(t) &&
		every(t.Srcs, rightSource) && every(t.Deps, rightDep) && every(t.Outs, rightText) && every(t.Visible, rightText)
}

func rightKind(t api.Target) bool {
	return api.Lib <= t.Kind && t.Kind <= api.Gen
}

func rightNumbers(t api.Target) bool {
	return leastCost <= t.Cost && t.Cost <= greatestCost &&
		leastRetry <= t.Retry && t.Retry <= greatestRetry && (t.Retry == defaultRetry || t.Kind == api.Test)
}

func rightPlatform(i api.Item) bool {
	return isPlatform(i.Text) && !i.Glob && i.Platform == ""
}

func rightSource(i api.Item) bool {
	return isText(i.Text) && (i.Platform == "" || isPlatform(i.Platform))
}

func rightDep(i api.Item) bool {
	return rightSource(i) && !i.Glob
}

func rightText(i api.Item) bool {
	return rightDep(i) && i.Platform == ""
}
