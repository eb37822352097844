package affected

import (
	"slices"

	"mainline/api"
)

// notAffected is the zero value in the place of a reason where there is none.
const notAffected = 0

// comparison is two graphs that are compared, with the targets of both of them, in order, each once. The numbers of targets are those of this list, so that they are in the order of the targets.
type comparison struct {
	targets       []target
	before, after side
}

func comparisonOf(before, after []api.Node, x, y []int) *comparison {
	targets := targetsOf(before, after)
	numbers := make(map[target]int)
	for number, t := range targets {
		numbers[t] = number
	}
	return &comparison{targets, sideOf(before, x, numbers), sideOf(after, y, numbers)}
}

// reason is why a target can be affected, where those before it in the table do not apply.
type reason struct {
	why     int
	applies func(t int) bool
}

func (c *comparison) reasons() []reason {
	return []reason{
		{api.AffNew, func(t int) bool { return c.before.first[t] == none }},
		{api.AffGone, func(t int) bool { return c.after.first[t] == none }},
		{api.AffFiles, func(t int) bool { return c.hasOtherFiles(t) || c.hasOtherLabels(t) }},
		{api.AffDeps, c.hasOtherKey},
	}
}

// whys returns for each target why it is affected.
func (c *comparison) whys() []int {
	reasons := c.reasons()
	whys := make([]int, len(c.targets))
	for t := range whys {
		if i := slices.IndexFunc(reasons, func(r reason) bool { return r.applies(t) }); i >= 0 {
			whys[t] = reasons[i].why
		}
	}
	return whys
}

// hasOtherFiles tells whether the files or attributes of a target in both graphs differ.
func (c *comparison) hasOtherFiles(t int) bool {
	v, w := c.before.variant(t), c.after.variant(t)
	return v.Kind != w.Kind || v.Cost != w.Cost || v.Retry != w.Retry || !slices.Equal(v.Files, w.Files) || !slices.Equal(v.Outs, w.Outs)
}

// hasOtherLabels tells whether the labels of the dependencies of a target in both graphs differ.
func (c *comparison) hasOtherLabels(t int) bool {
	return !slices.Equal(c.labels(c.before.uses(t)), c.labels(c.after.uses(t)))
}

// labels returns the labels of targets that are in order, each once.
func (c *comparison) labels(numbers []int) []string {
	var labels []string
	for _, t := range numbers {
		labels = append(labels, c.targets[t].label)
	}
	return slices.Compact(labels)
}

// hasOtherKey tells whether the keys of a target in both graphs differ, or could if they were known.
func (c *comparison) hasOtherKey(t int) bool {
	key := c.after.key(t)
	return key == noKey || key != c.before.key(t)
}

// via returns the least label of the affected targets that a target uses now, or nothing.
func (c *comparison) via(t int, whys []int) string {
	for _, used := range c.after.uses(t) {
		if whys[used] != notAffected {
			return c.targets[used].label
		}
	}
	return ""
}
