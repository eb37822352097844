package graph

import (
	"slices"
	"strings"

	"mainline/api"
)

// target is what dependencies on the variants with one label need to know: where the first of them is visible, and the first node for each platform.
type target struct {
	dir       string // of the package of the first variant
	audience  audience
	platforms map[string]int
}

// nodesOf returns a node for each variant of packages, without Deps, and the directories of the packages of these nodes.
func nodesOf(l []api.Package) ([]api.Node, []string) {
	var nodes []api.Node
	var dirs []string
	for _, p := range l {
		path := buildName
		if p.Dir != "" {
			path = p.Dir + "/" + buildName
		}
		for _, v := range p.Variants {
			nodes = append(nodes, api.Node{Variant: copyOf(v), Path: path})
			dirs = append(dirs, p.Dir)
		}
	}
	return nodes, dirs
}

// copyOf returns an equal variant whose lists are new memory.
func copyOf(v api.Variant) api.Variant {
	v.Files = slices.Clone(v.Files)
	v.Outs = slices.Clone(v.Outs)
	v.Deps = slices.Clone(v.Deps)
	v.Visible = slices.Clone(v.Visible)
	return v
}

// targetsOf returns the targets of nodes in packages with these directories, by their labels.
func targetsOf(nodes []api.Node, dirs []string) map[string]*target {
	targets := make(map[string]*target)
	for n := range nodes {
		v := &nodes[n].Variant
		known := targets[v.Label]
		if known == nil {
			known = &target{dir: dirs[n], audience: audienceOf(v.Visible), platforms: make(map[string]int)}
			targets[v.Label] = known
		}
		if _, taken := known.platforms[v.Platform]; !taken {
			known.platforms[v.Platform] = n
		}
	}
	return targets
}

// dependencies returns the nodes on which a variant in a package with this directory depends directly, in increasing order, each once, and reports the items of Deps that have problems.
func dependencies(targets map[string]*target, v api.Variant, dir string, report func(line int, kind api.Errno)) []int {
	var deps []int
	for _, item := range v.Deps {
		if item.Platform != "" && item.Platform != v.Platform {
			continue
		}
		n, problem := resolve(targets, item.Text, dir, v.Platform)
		if problem == api.OK {
			deps = append(deps, n)
		} else {
			report(item.Line, problem)
		}
	}
	slices.Sort(deps)
	return slices.Compact(deps)
}

// resolve returns the node that a dependency stands for, of a variant for this platform in a package with this directory.
func resolve(targets map[string]*target, text, dir, platform string) (int, api.Errno) {
	label, denotes := labelOf(text, dir)
	if !denotes {
		return nowhere, api.ErrDep
	}
	found := targets[label]
	if found == nil {
		return nowhere, api.ErrDep
	}
	if !found.isVisibleIn(dir) {
		return nowhere, api.ErrVisible
	}
	for _, served := range []string{platform, anyPlatform} {
		if n, exists := found.platforms[served]; exists {
			return n, api.OK
		}
	}
	return nowhere, api.ErrPlatform
}

// labelOf returns the label that a dependency denotes in a package with this directory, if it denotes one.
func labelOf(text, dir string) (string, bool) {
	if strings.HasPrefix(text, ":") {
		return "//" + dir + text, true
	}
	if !strings.HasPrefix(text, "//") {
		return "", false
	}
	if strings.Contains(text, ":") {
		return text, true
	}
	return text + ":" + text[strings.LastIndex(text, "/")+1:], true
}

func (t *target) isVisibleIn(dir string) bool {
	return dir == t.dir || t.audience.has(dir)
}
