package affected

import (
	"slices"
	"testing"

	"mainline/api"
)

// The functions ...ByWords follow the chapter's words as literally as possible.

// nodeByWords returns the first node with this label and platform, or -1.
func nodeByWords(nodes []api.Node, label, platform string) int {
	return slices.IndexFunc(nodes, func(n api.Node) bool {
		return n.Variant.Label == label && n.Variant.Platform == platform
	})
}

func keyByWords(keys []int, n int) int {
	if n >= len(keys) {
		return 0
	}
	return keys[n]
}

// depsByWords returns the nodes in the Deps of node n that exist.
func depsByWords(nodes []api.Node, n int) []api.Node {
	var deps []api.Node
	for i := range nodes {
		if slices.Contains(nodes[n].Deps, i) {
			deps = append(deps, nodes[i])
		}
	}
	return deps
}

// haveLabelsByWords tells whether all labels of some nodes are those of others.
func haveLabelsByWords(some, others []api.Node) bool {
	for _, one := range some {
		if !slices.ContainsFunc(others, func(n api.Node) bool { return n.Variant.Label == one.Variant.Label }) {
			return false
		}
	}
	return true
}

// graphs are the arguments of a comparison.
type graphs struct {
	before, after []api.Node
	x, y          []int
}

// whyByWords returns why a target is affected; 0 if it is not.
func (g graphs) whyByWords(label, platform string) int {
	m, n := nodeByWords(g.before, label, platform), nodeByWords(g.after, label, platform)
	if m < 0 && n < 0 {
		return 0
	}
	if m < 0 {
		return api.AffNew
	}
	if n < 0 {
		return api.AffGone
	}
	v, w := g.before[m].Variant, g.after[n].Variant
	if v.Kind != w.Kind || v.Cost != w.Cost || v.Retry != w.Retry {
		return api.AffFiles
	}
	if !slices.Equal(v.Files, w.Files) || !slices.Equal(v.Outs, w.Outs) {
		return api.AffFiles
	}
	old, current := depsByWords(g.before, m), depsByWords(g.after, n)
	if !haveLabelsByWords(old, current) || !haveLabelsByWords(current, old) {
		return api.AffFiles
	}
	oldKey, key := keyByWords(g.x, m), keyByWords(g.y, n)
	if oldKey != key || oldKey == 0 && key == 0 {
		return api.AffDeps
	}
	return 0
}

// viaByWords returns the least label of the affected nodes on which a target depends directly.
func (g graphs) viaByWords(label, platform string) string {
	var labels []string
	for _, dep := range depsByWords(g.after, nodeByWords(g.after, label, platform)) {
		if g.whyByWords(dep.Variant.Label, dep.Variant.Platform) != 0 {
			labels = append(labels, dep.Variant.Label)
		}
	}
	if len(labels) == 0 {
		return ""
	}
	return slices.Min(labels)
}

func (g graphs) compareByWords() []api.Effect {
	var effects []api.Effect
	for _, node := range slices.Concat(g.before, g.after) {
		effect := api.Effect{Label: node.Variant.Label, Platform: node.Variant.Platform}
		effect.Why = g.whyByWords(effect.Label, effect.Platform)
		if effect.Why == api.AffDeps {
			effect.Via = g.viaByWords(effect.Label, effect.Platform)
		}
		if effect.Why != 0 && !slices.Contains(effects, effect) {
			effects = append(effects, effect)
		}
	}
	slices.SortFunc(effects, func(a, b api.Effect) int {
		if a.Label < b.Label || a.Label == b.Label && a.Platform < b.Platform {
			return -1
		}
		return 1
	})
	return effects
}

func (g graphs) requiredByWords() []int {
	var required []int
	for n := range g.after {
		if key := keyByWords(g.y, n); key != 0 && !slices.Contains(g.x, key) {
			required = append(required, n)
		}
	}
	return required
}

func chainByWords(effects []api.Effect, label, platform string) []string {
	find := func(label string, any bool) int {
		return slices.IndexFunc(effects, func(e api.Effect) bool {
			return e.Label == label && (any || e.Platform == platform)
		})
	}
	at := find(label, false)
	if at < 0 {
		return nil
	}
	labels := []string{label}
	for at >= 0 {
		via := effects[at].Via
		if effects[at].Why != api.AffDeps || via == "" || slices.Contains(labels, via) {
			break
		}
		labels = append(labels, via)
		at = find(via, false)
		if at < 0 {
			at = find(via, true)
		}
	}
	return labels
}

// check compares all results for two graphs with what the words say, and returns the effects.
func (g graphs) check(t *testing.T) []api.Effect {
	t.Helper()
	effects, want := Compare(g.before, g.after, g.x, g.y), g.compareByWords()
	if !slices.Equal(effects, want) {
		t.Fatalf("Compare of %v: %v; want %v", g, effects, want)
	}
	required, wanted := Required(g.x, g.after, g.y), g.requiredByWords()
	if !slices.Equal(required, wanted) {
		t.Fatalf("Required of %v: %v; want %v", g, required, wanted)
	}
	for _, node := range slices.Concat(g.before, g.after) {
		isChainByWords(t, effects, node.Variant.Label, node.Variant.Platform)
	}
	return effects
}

func isChainByWords(t *testing.T, effects []api.Effect, label, platform string) {
	t.Helper()
	if labels, want := Chain(effects, label, platform), chainByWords(effects, label, platform); !slices.Equal(labels, want) {
		t.Fatalf("Chain(%v, %q, %q): %q; want %q", effects, label, platform, labels, want)
	}
}
