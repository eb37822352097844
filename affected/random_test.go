package affected

import (
	"slices"
	"testing"

	"mainline/api"
	"mainline/graph"
	"mainline/keys"
	"mainline/samples"
)

func oneOf[T any](below func(int) int, all ...T) T {
	return all[below(len(all))]
}

// randomNode returns one of few nodes, so that equal ones and ones that nearly are occur often.
func randomNode(below func(int) int, many int) api.Node {
	n := api.Node{Variant: api.Variant{Label: oneOf(below, "a", "b", "c", "d", ""), Platform: oneOf(below, "any", "any", "mac")}}
	for range below(4) {
		n.Deps = append(n.Deps, below(many+2)-1)
	}
	return changed(below, n)
}

// changed returns a node that is nearly always an equal one.
func changed(below func(int) int, n api.Node) api.Node {
	v := &n.Variant
	switch below(30) {
	case 0:
		v.Kind++
	case 1:
		v.Cost++
	case 2:
		v.Retry++
	case 3:
		v.Files = append(slices.Clone(v.Files), api.File{Path: oneOf(below, "f", "g"), Id: below(2)})
	case 4:
		v.Outs = append(slices.Clone(v.Outs), oneOf(below, "o", "p"))
	case 5:
		n.Deps = append(slices.Clone(n.Deps), below(9)-1)
	case 6:
		v.Line, v.Visible, v.Deps, n.Path = 1, []string{"public"}, []api.Item{{Text: ":a"}}, "BUILD"
	}
	return n
}

func randomKeys(below func(int) int, many int) []int {
	var l []int
	for range max(0, many+1-below(3)) {
		l = append(l, below(5)-1)
	}
	return l
}

// randomGraphs returns two graphs, of which the one has most of the nodes of the other one at their places.
func randomGraphs(below func(int) int) graphs {
	var g graphs
	many := below(8)
	for n := range many {
		g.before = append(g.before, randomNode(below, many))
		next := changed(below, g.before[n])
		if below(8) == 0 {
			next = randomNode(below, many)
		}
		if below(12) > 0 {
			g.after = append(g.after, next)
		}
	}
	g.x, g.y = randomKeys(below, len(g.before)), randomKeys(below, len(g.after))
	for n := range min(len(g.x), len(g.y)) {
		if below(3) > 0 {
			g.y[n] = g.x[n]
		}
	}
	return g
}

func TestP15_1RandomGraphsFollowTheWords(t *testing.T) {
	occurs, via, unaffected := map[int]int{}, 0, 0
	for seed := range uint32(20000) {
		g := randomGraphs(samples.Below(seed))
		effects := g.check(t)
		for _, e := range effects {
			occurs[e.Why]++
			if e.Via != "" {
				via++
			}
		}
		if len(effects) == 0 && len(g.after) > 0 {
			unaffected++
		}
	}
	for _, why := range []int{api.AffNew, api.AffGone, api.AffFiles, api.AffDeps} {
		if occurs[why] < 4000 {
			t.Errorf("reason %d occurs %d times", why, occurs[why])
		}
	}
	if via < 3000 || via > occurs[api.AffDeps]-3000 || unaffected < 500 {
		t.Errorf("%d effects have a label in Via, and %d pairs of graphs no effects", via, unaffected)
	}
}

// randomEffects returns effects as no comparison has them: in any order, with several ones of a target.
func randomEffects(below func(int) int) []api.Effect {
	var effects []api.Effect
	for range below(12) {
		effects = append(effects, effect(oneOf(below, "a", "b", "c", "d", "e", ""), oneOf(below, "p", "q", "r"), oneOf(below, api.AffDeps, api.AffDeps, api.AffDeps, api.AffDeps, below(6)), oneOf(below, "a", "b", "c", "d", "e", "f", "")))
	}
	return effects
}

func TestP15_3RandomEffectsFollowTheWords(t *testing.T) {
	lengths := map[int]int{}
	for seed := range uint32(5000) {
		effects := randomEffects(samples.Below(seed))
		for _, label := range []string{"a", "b", "c", "d", "e", "f", ""} {
			for _, platform := range []string{"p", "q", "r", "s"} {
				isChainByWords(t, effects, label, platform)
				lengths[len(Chain(effects, label, platform))]++
			}
		}
	}
	for length := range 6 {
		if lengths[length] < 50 {
			t.Errorf("%d chains have the length %d", lengths[length], length)
		}
	}
}

// randomPackages returns packages that have the platform any or others, and of which each target mostly depends on those in later packages, or with cycles on any.
func randomPackages(below func(int) int, withCycles bool) []api.Package {
	names := []string{"a", "b", "c", "d", "e", "f"}
	var l []api.Package
	for i, dir := range names {
		p := api.Package{Dir: dir, Platforms: oneOf(below, []string{"any"}, []string{"any"}, []string{"linux", "mac"}, []string{"mac"})}
		var deps []api.Item
		for range 1 + below(2) {
			next := i + 1 + below(3)
			if withCycles && below(4) == 0 {
				next = below(len(names))
			}
			if next < len(names) {
				deps = append(deps, api.Item{Text: "//" + names[next], Platform: oneOf(below, "", "", "", "mac")})
			}
		}
		for _, platform := range p.Platforms {
			p.Variants = append(p.Variants, api.Variant{Label: "//" + dir + ":" + dir, Platform: platform, Deps: deps, Visible: []string{"public"}})
		}
		l = append(l, p)
	}
	return l
}

// changedPackages returns packages most of which are equal ones.
func changedPackages(below func(int) int, l []api.Package, withCycles bool) []api.Package {
	var next []api.Package
	other := randomPackages(below, withCycles)
	for i, p := range l {
		switch below(20) {
		case 0:
			next = append(next, other[i])
		case 1:
			p.Variants = slices.Clone(p.Variants)
			p.Variants[below(len(p.Variants))].Cost++
			next = append(next, p)
		case 2: // it is gone
		default:
			next = append(next, p)
		}
	}
	return next
}

// isNewOrHasOtherKey tells whether a target of after is not in before, or has another key there.
func (g graphs) isNewOrHasOtherKey(label, platform string) bool {
	m, n := graph.Find(g.before, label, platform), graph.Find(g.after, label, platform)
	return n >= 0 && (m < 0 || g.x[m] != g.y[n])
}

// endsWithReason tells whether there is an effect with the last label of a chain, and another reason than AffDeps.
func endsWithReason(effects []api.Effect, chain []string) bool {
	return slices.ContainsFunc(effects, func(e api.Effect) bool {
		return e.Label == chain[len(chain)-1] && e.Why != api.AffDeps
	})
}

func isCycle(p api.Problem) bool {
	return p.Kind == api.ErrCycle
}

func TestP15_4GraphsOfPackages(t *testing.T) {
	long, cycles := 0, 0
	for seed := range uint32(6000) {
		below, table := samples.Below(seed), keys.New()
		withCycles := seed%4 == 0
		l := randomPackages(below, withCycles)
		before, problems := graph.Make(l)
		after, others := graph.Make(changedPackages(below, l, withCycles))
		g := graphs{before, after, table.All(before), table.All(after)}
		effects := g.check(t)
		for _, node := range after {
			v := node.Variant
			chain := Chain(effects, v.Label, v.Platform)
			if g.isNewOrHasOtherKey(v.Label, v.Platform) && len(chain) == 0 {
				t.Fatalf("seed %d: %s is not affected", seed, v.Label)
			}
		}
		if slices.ContainsFunc(problems, isCycle) || slices.ContainsFunc(others, isCycle) {
			cycles++
			continue
		}
		for _, e := range effects {
			chain := Chain(effects, e.Label, e.Platform)
			if !endsWithReason(effects, chain) {
				t.Fatalf("seed %d: %v has the chain %v", seed, e, chain)
			}
			if len(chain) > 2 {
				long++
			}
		}
		if effects := (graphs{before, before, g.x, g.x}).check(t); len(effects) != 0 {
			t.Fatalf("seed %d: equal graphs have the effects %v", seed, effects)
		}
	}
	if long < 500 || cycles < 300 || cycles > 3000 {
		t.Errorf("%d long chains, %d graphs with cycles", long, cycles)
	}
}

// TestP15_4DependencyOnAnotherPlatform has a dependency that becomes one on an older node with the same label: the key is another one, but nothing on which the target depends is affected.
func TestP15_4DependencyOnAnotherPlatform(t *testing.T) {
	makes := func(platforms ...string) []api.Node {
		user := api.Variant{Label: "//b:t", Platform: "linux", Deps: []api.Item{{Text: "//a:y"}}}
		used := api.Package{Dir: "a"}
		for _, platform := range platforms {
			used.Variants = append(used.Variants, api.Variant{Label: "//a:y", Platform: platform, Visible: []string{"public"}})
		}
		nodes, _ := graph.Make([]api.Package{used, {Dir: "b", Variants: []api.Variant{user}}})
		return nodes
	}
	before, after, table := makes("linux", "any"), makes("any"), keys.New()
	g := graphs{before, after, table.All(before), table.All(after)}
	isShown(t, g, "//a:y linux gone, //b:t linux deps")
	isChain(t, g.check(t), "//b:t", "linux", "//b:t")
	g = graphs{after, before, g.y, g.x}
	isShown(t, g, "//a:y linux new, //b:t linux deps via //a:y")
}
